/- Joined texts of the proof. -/
import Derived.Test.YtcmkjjlchljffaaDoorJ4

/- The landed disk: what its writes do, each by its closure. -/
namespace Go.Proofs.YtcmkjjlchljffaaDoor
open Go.RowKit
set_option linter.unusedVariables false
set_option maxRecDepth 100000
set_option maxHeartbeats 6400000

theorem wp_alloc_at {P : Program} {o : Oper} {a : Act} {w : World} {K : Act → World → Prop} {Q : Exit → Act → World → Prop} (t : TypeId) (ho : o.op = .alloc t) (cs : List Value) (n : Nat) (hz : (P.info? t).map (fun i => (i.zero, i.size)) = some (some (.agg cs.toArray), n))
    (h : ∀ w', At t w' w.heap.size cs → Below w.heap.size w w' → w'.heap.size = w.heap.size + 1 → K (a.put o.dst (.pointer (some ⟨w.heap.size, 0, none⟩))) w') : o.wp P a w K Q := by
  have := h (w.alloc (.cells cs.toArray t)) (_root_.Go.heap_alloc_new w _) ((Below.refl _ w).alloc (Nat.le_refl _) _) (by show (w.heap.push _).size = _; simp)
  have h0 := (zero_of_info hz).1
  unfold Oper.wp execOp
  simp only [ho, Instr.alloc, Sem.run_bind, h0]
  simpa [newVar, go_sem, Value.cells] using this
section
variable {B g mb : Nat} {w : World} {m : FMap} {sz wr : Nat} {lf : Int} {nm : ByteArray}
/-- The blocks of a file that is there. -/
abbrev OfF (m : FMap) (nm : ByteArray) : Nat → Prop := fun k => ∃ p, lookM m nm = some p ∧ p.v.ownBlock = some k
theorem file_block {k : Nat} (h : (fileM m nm).v.ownBlock = some k) : OfF m nm k := by
  unfold fileM at h
  cases hl : lookM m nm with
  | none => rw [hl] at h; cases h
  | some p => rw [hl] at h; exact ⟨p, hl, h⟩
theorem put_wrt (h : Ds B w g mb m sz lf wr) (hk : nm.size ≤ 40) (a : Option Addr) (n c : Nat) (bs : List UInt8) (sf : Nat) (hd : Bool) (x : World) (hc : Chg (OfF m nm) w x) (ho : OwnX eB B x (.slice a n c) bs)
    (hv : ∀ k, (Value.slice a n c).ownBlock = some k → OfF m nm k ∨ w.heap.size ≤ k) :
    Calls Tryd.prog 38 #[.pointer (some ⟨g, 0, none⟩), .string nm, .agg #[.slice a n c, .int .i64 (sf : Int), .bool hd]] x fun r w' => r = .returned (.tuple #[]) ∧ Wrt B w w' mb m (updM m nm ⟨.slice a n c, bs, sf, hd⟩) := by
  have ng : ¬ OfF m nm g := fun ⟨p, h1, h2⟩ => h.neG (look_mem h1) h2
  have nb : ¬ OfF m nm mb := fun ⟨p, h1, h2⟩ => h.neM (look_mem h1) h2
  have hA := h.at_.same (hc.block g (heapLt h.at_) ng)
  have hM := h.mp.same (hc.block mb h.mp.lt nb)
  have q : x.cell? ⟨g, 2, none⟩ = some (.map (some mb)) := by rw [hA.cell]; rfl
  refine (put_any g mb m a n c bs sf hd nm x q hM (by omega)).mono ?_
  rintro r w' ⟨rfl, hM', y, hy, hb⟩
  refine ⟨rfl, Wrt.upd h hM' ?_ hk ?_ hv⟩
  · refine (ho.below hy).same fun k hk => hb.block k ((ho.below hy).block k hk).2.1 ?_
    rintro rfl
    rcases hv k hk with e | e
    · exact nb e
    · have := h.mp.lt; omega
  · refine ((hc.trans (Chg.of_below hy)).mono fun k _ e => .inr e).trans (Chg.of_but hb (.inl rfl))
theorem grown_at {x x' : World} {v : Value} {bs : List UInt8} {t : TypeId} {k : Nat} {cs : List Value} (hg : x.grownBy x' v.ownBlock) (ho : OwnX eB B x v bs) (hA : At t x k cs) (ht : t ≠ 5) : At t x' k cs := by
  refine hA.same (hg.block k hA.lt fun e => ?_)
  obtain ⟨_, _, cs', hA'⟩ := ho.block k e.symm
  exact hA.ne hA' ht rfl
end
theorem append_c (B g mb : Nat) (w : World) (m : FMap) (sz wr : Nat) (lf : Int) (nm : ByteArray) (kd kn kb : Nat) (ba : Option Addr) (lb bc : Nat) (b : List UInt8) (h : Ds B w g mb m sz lf wr) (hsf : ∀ p ∈ m, p.2.sf ≤ p.2.bs.length) (hBw : B ≤ w.heap.size)
    (hd_ : At 22 w kd [.pointer (some ⟨g, 0, none⟩)]) (hn_ : At 9 w kn [.string nm]) (hb_ : At 29 w kb [.slice ba lb bc]) (hrow : Row w ba b) (hlb : b.length = lb) (hbc : lb ≤ bc) (hnil : ba = none → bc = 0) (hsum : sumM m + lb ≤ 67108864) (h40 : nm.size ≤ 40) :
    Calls Tryd.prog 37 #[.pointer (some ⟨kd, 0, none⟩), .pointer (some ⟨kn, 0, none⟩), .pointer (some ⟨kb, 0, none⟩)] w fun r w' => r = .returned (.tuple #[]) ∧ ∃ v, Wrt B w w' mb m (updM m nm { fileM m nm with v := v, bs := (fileM m nm).bs ++ b }) := by
  obtain ⟨a, n, c, bs, sf, hd, hf, hn, hnc, hn0, hrw, hO, hns, hsn⟩ := file_parts h hsf nm
  have hs : nm.size ≤ maxLen := by unfold maxLen; omega
  have HLk : Hid (∀ x, Below w.heap.size w x → (Instr.lookup 33 (.map (some mb)) (.string nm) false).run Tryd.prog x = .ok (.agg #[.slice a n c, .int .i64 (sf : Int), .bool hd]) x) := hidU (fun x hx => by
    have := (h.mp.below hx).lookF hs
    rw [hf] at this
    exact this)
  have HB := hidU (fun k (hk : (Value.slice a n c).ownBlock = some k) => (file_block (m := m) (nm := nm) (k := k) (by rw [hf]; exact hk) : OfF m nm k))
  rw [hf]
  have H := hidU h
  have HF := hidU hf
  have HO := hidU hO
  have HR := hidU hrow
  have HA1 := hidU hd_
  have HA2 := hidU hn_
  have HA3 := hidU hb_
  have cd : w.cell? ⟨kd, 0, none⟩ = some (.pointer (some ⟨g, 0, none⟩)) := by rw [hd_.cell]; rfl
  have cn : w.cell? ⟨kn, 0, none⟩ = some (.string nm) := by rw [hn_.cell]; rfl
  have cb : w.cell? ⟨kb, 0, none⟩ = some (.slice ba lb bc) := by rw [hb_.cell]; rfl
  have q := h.files
  clear h hf hd_ hn_ hb_ hO hrow hrw hsf
  go_enter Tryd.func37, Tryd.ntmps37
  go_wp2
  have hS0 : Below w.heap.size w w.drew := Below.drew (Below.refl _ _)
  refine wp_region_held_drew (S := fun xS => Below w.heap.size w xS) (by kernel_rfl) hS0 ?_
  obtain ⟨x0, hx0⟩ : ∃ x, x = w.drew := ⟨_, rfl⟩
  rw [← hx0] at hS0  ⊢
  clear hx0
  intro _
  refine wpAnyH_take (i := 0) (oi := { dst := some 4, op := .load 22 (.tmp 0), type := _, pos := _, after := _, guard := none }) (v := .pointer (some ⟨g, 0, none⟩)) rfl (by kernel_rfl) (by kernel_rfl) (by kernel_rfl) (fun _ _ _ h => h) (Or.inl ⟨by rfl, ?_⟩) hS0 ?_
  · intro wS hSw
    have z0 := (hSw.cell (lt_of_cell cd)).trans cd
    go_simp
  simp only [Act.put, List.setIfInBounds_toArray, List.set_cons_zero, List.set_cons_succ]
  refine wpAnyH_take (i := 1) (oi := { dst := some 5, op := .nilCheck (.tmp 4), type := _, pos := _, after := _, guard := none }) (v := .pointer (some ⟨g, 0, none⟩)) rfl (by kernel_rfl) (by kernel_rfl) (by kernel_rfl) (fun _ _ _ h => h) (Or.inl ⟨by rfl, ?_⟩) hS0 ?_
  · intro wS hSw
    go_simp
  simp only [Act.put, List.setIfInBounds_toArray, List.set_cons_zero, List.set_cons_succ]
  refine wpAnyH_take (i := 2) (oi := { dst := some 6, op := .fieldAddr 35 (.tmp 5) 2, type := _, pos := _, after := _, guard := none }) (v := .pointer (some ⟨g, 2, none⟩)) rfl (by kernel_rfl) (by kernel_rfl) (by kernel_rfl) (fun _ _ _ h => h) (Or.inl ⟨by rfl, ?_⟩) hS0 ?_
  · intro wS hSw
    go_simp
  simp only [Act.put, List.setIfInBounds_toArray, List.set_cons_zero, List.set_cons_succ]
  refine wpAnyH_take (i := 3) (oi := { dst := some 7, op := .load 33 (.tmp 6), type := _, pos := _, after := _, guard := none }) (v := .map (some mb)) rfl (by kernel_rfl) (by kernel_rfl) (by kernel_rfl) (fun _ _ _ h => h) (Or.inl ⟨by rfl, ?_⟩) hS0 ?_
  · intro wS hSw
    have z0 := (hSw.cell (lt_of_cell q)).trans q
    go_simp
  simp only [Act.put, List.setIfInBounds_toArray, List.set_cons_zero, List.set_cons_succ]
  refine wpAnyH_take (i := 4) (oi := { dst := some 8, op := .load 9 (.tmp 1), type := _, pos := _, after := _, guard := none }) (v := .string nm) rfl (by kernel_rfl) (by kernel_rfl) (by kernel_rfl) (fun _ _ _ h => h) (Or.inl ⟨by rfl, ?_⟩) hS0 ?_
  · intro wS hSw
    have z0 := (hSw.cell (lt_of_cell cn)).trans cn
    go_simp
  simp only [Act.put, List.setIfInBounds_toArray, List.set_cons_zero, List.set_cons_succ]
  refine wpAnyH_take (i := 5) (oi := { dst := some 9, op := .lookup 33 (.tmp 7) (.tmp 8) false, type := _, pos := _, after := _, guard := none }) (v := .agg #[.slice a n c, .int .i64 (sf : Int), .bool hd]) rfl (by kernel_rfl) (by kernel_rfl) (by kernel_rfl) (fun _ _ _ h => h) (Or.inl ⟨by rfl, ?_⟩) hS0 ?_
  · intro wS hSw
    have hz := HLk.out _ hSw
    go_simp
    try rw [hz]
    try rfl
  simp only [Act.put, List.setIfInBounds_toArray, List.set_cons_zero, List.set_cons_succ]
  refine wpAnyH_ready (rs := [6]) (by kernel_rfl) (by simp) ?_
  refine AllReadyH.cons (o := { dst := some 3, op := .alloc 66, type := _, pos := _, after := _, guard := none }) rfl (fun K hK => ?_) AllReadyH.nil
  rw [if_pos (by rfl)]
  have sv1 := hS0.size
  refine wp_alloc_at 66 rfl [Value.slice none 0 0, .int .i64 0, .bool false] _ z66 ?_
  intro x1 hA1 hb1 hs1
  have lt1 : x0.heap.size < x1.heap.size := hA1.lt
  clear hs1
  have sz1 := hb1.size
  have hS1 := hS0.trans (hb1.mono hS0.size)
  refine hK.out _ _ hS1 (fun _ => ?_)
  clear hK K
  refine wpAnyH_ready (rs := [7]) (by kernel_rfl) (by simp) ?_
  refine AllReadyH.cons (o := { dst := none, op := .store 66 (.tmp 3) (.tmp 9), type := _, pos := _, after := _, guard := none }) rfl (fun K hK => ?_) AllReadyH.nil
  rw [if_pos (by rfl)]
  have sv2 := hS1.size
  refine wp_store3 (.tmp 3) (.tmp 9) rfl (x0.heap.size) [.slice a n c, .int .i64 (sf : Int), .bool hd] rfl rfl _ hA1 rfl rfl one3 ?_
  intro x2 hA2 hb2 hs2
  clear hA1
  have sz2 := hb2.size
  have hS2 := hb2.below hS1 sv1 hS1.size
  refine hK.out _ _ hS2 (fun _ => ?_)
  clear hK K
  refine wpAnyH_done (by kernel_rfl) ?_ _
  have hAG := hA2
  have HBx := hidU (hS2)
  have hGl : w.heap.size ≤ x0.heap.size := sv1
  obtain ⟨G, hG⟩ : ∃ G, G = x0.heap.size := ⟨_, rfl⟩
  rw [← hG] at hAG hGl ⊢
  clear hG hA2 hb1 hb2 hs2 sz1 sz2 sv1 sv2 lt1 hS1 hS2 hS0
  have c0 : x2.cell? ⟨G, 0, none⟩ = some (.slice a n c) := by rw [hAG.cell]; rfl
  have cb2 := (HBx.out.cell (lt_of_cell cb)).trans cb
  go_wp2_with (refine wpList_appF rfl (.tmp 11) (.tmp 12) rfl B _ ba lb bc rfl rfl (HO.out.below HBx.out) hlb hnil hbc (HR.out.below HBx.out) (by rw [hn]; omega) (Nat.le_trans hBw HBx.out.size) ?_; intro v' x3 hO3 hg3 hv3; refine Hid.out ?_)
  have hAG3 := grown_at hg3 (HO.out.below HBx.out) hAG (by decide)
  have C3 := hidU ((Chg.of_below (K := OfF m nm) HBx.out).trans (Chg.of_grown hg3 fun k hk => HB.out k hk))
  have hA13 := hidU (grown_at hg3 (HO.out.below HBx.out) (HA1.out.below HBx.out) (by decide))
  have hA23 := hidU (grown_at hg3 (HO.out.below HBx.out) (HA2.out.below HBx.out) (by decide))
  have hV3 : Hid (∀ k, v'.ownBlock = some k → OfF m nm k ∨ w.heap.size ≤ k) := hidU (fun k hk => by
    rcases hv3 with e | e
    · exact .inl (HB.out k (e ▸ hk))
    · rw [e] at hk
      cases hk
      exact .inr HBx.out.size)
  obtain ⟨a', c', rfl⟩ := own_slice hO3
  obtain ⟨n', hn'⟩ : ∃ n', Hid (n' = (bs ++ b).length) := ⟨_, (rfl : _ = (bs ++ b).length)⟩
  rw [← hn'.out] at hO3 hV3
  refine hidU ?_
  rw [← hn'.out]
  have HO3 := hidU hO3
  clear hg3 hv3 hO3 c0 cb2 hAG
  go_wp2_with (refine wpList_store1 rfl 29 (.tmp 14) (.tmp 13) rfl G 0 (.slice a' n' c') rfl rfl 66 _ hAG3 (by simp) i30 rfl rfl ?_; intro x4 hAG4 hb4 hs4; refine Hid.out ?_)
  simp only [List.set] at hAG4
  refine hidU ?_
  have HO4 : Hid (OwnX eB B x4 (.slice a' n' c') (bs ++ b)) := hidU (HO3.out.same fun k hk => hb4.block k (HO3.out.block k hk).2.1 (by
    rintro rfl
    obtain ⟨_, _, cs, hA⟩ := HO3.out.block k hk
    exact hA.ne hAG3 (show (5 : Nat) ≠ 66 by decide) rfl))
  have C4 := hidU (C3.out.more (Chg.of_but (K := fun k => k = G) hb4 rfl) (fun i hi e => by omega))
  have c1 : x4.cell? ⟨kd, 0, none⟩ = some (.pointer (some ⟨g, 0, none⟩)) := by rw [(hb4.at hA13.out (hA13.out.ne hAG3 (by decide))).cell]; rfl
  have c2 : x4.cell? ⟨kn, 0, none⟩ = some (.string nm) := by rw [(hb4.at hA23.out (hA23.out.ne hAG3 (by decide))).cell]; rfl
  have HP := hidU (put_wrt H.out h40 a' n' c' (bs ++ b) sf hd x4 C4.out HO4.out hV3.out)
  clear hb4 hs4 hAG3 hA13 hA23 cd cn cb q
  go_wp2_with (first
    | (refine wpList_load_at rfl 66 (.tmp 3) rfl G rfl 66 _ hAG4 _ Tryd.underlying66 rfl i66 ?_)
    | (go_at_call 38; refine HP.out.mono ?_; rintro _ x5 ⟨rfl, hW⟩))
  go_end0
  exact ⟨rfl, _, hW⟩

end Go.Proofs.YtcmkjjlchljffaaDoor

/- The landed disk: what Sync, Cut, Rename and Remove do, each by its closure. -/
namespace Go.Proofs.YtcmkjjlchljffaaDoor
open Go.RowKit
set_option linter.unusedVariables false
set_option maxRecDepth 100000
set_option maxHeartbeats 6400000

theorem Wrt.from {B mb : Nat} {w0 w w' : World} {m m' : FMap} (k : Wrt B w w' mb m m') (hb : Below w0.heap.size w0 w) : Wrt B w0 w' mb m m' :=
  ⟨k.mp, k.own, k.apart, k.ns, (Chg.of_below hb).trans k.chg, fun p hp i hi => (k.new p hp i hi).imp id fun e => Nat.le_trans hb.size e⟩
theorem sync_c (B g mb : Nat) (w : World) (m : FMap) (sz wr : Nat) (lf : Int) (nm : ByteArray) (kd kn : Nat) (h : Ds B w g mb m sz lf wr) (hsf : ∀ p ∈ m, p.2.sf ≤ p.2.bs.length)
    (hd_ : At 22 w kd [.pointer (some ⟨g, 0, none⟩)]) (hn_ : At 9 w kn [.string nm]) (hsum : sumM m ≤ 67108864) (h40 : nm.size ≤ 40) :
    Calls Tryd.prog 54 #[.pointer (some ⟨kd, 0, none⟩), .pointer (some ⟨kn, 0, none⟩)] w fun r w' => r = .returned (.tuple #[]) ∧ Wrt B w w' mb m (updM m nm { fileM m nm with sf := (fileM m nm).bs.length, hd := true }) := by
  obtain ⟨a, n, c, bs, sf, hd, hf, hn, hnc, hn0, hrw, hO, hns, hsn⟩ := file_parts h hsf nm
  have hs : nm.size ≤ maxLen := by unfold maxLen; omega
  have HLk : Hid (∀ x, Below w.heap.size w x → (Instr.lookup 33 (.map (some mb)) (.string nm) false).run Tryd.prog x = .ok (.agg #[.slice a n c, .int .i64 (sf : Int), .bool hd]) x) := hidU (fun x hx => by
    have := (h.mp.below hx).lookF hs
    rw [hf] at this
    exact this)
  have HB := hidU (fun k (hk : (Value.slice a n c).ownBlock = some k) => (file_block (m := m) (nm := nm) (k := k) (by rw [hf]; exact hk) : OfF m nm k))
  rw [hf]
  have H := hidU h
  have HF := hidU hf
  have HO := hidU hO
  have HA1 := hidU hd_
  have HA2 := hidU hn_
  have cd : w.cell? ⟨kd, 0, none⟩ = some (.pointer (some ⟨g, 0, none⟩)) := by rw [hd_.cell]; rfl
  have cn : w.cell? ⟨kn, 0, none⟩ = some (.string nm) := by rw [hn_.cell]; rfl
  have q := h.files
  clear h hf hd_ hn_ hO hrw hsf
  go_enter Tryd.func54, Tryd.ntmps54
  go_wp2
  have hS0 : Below w.heap.size w w.drew := Below.drew (Below.refl _ _)
  refine wp_region_held_drew (S := fun xS => Below w.heap.size w xS) (by kernel_rfl) hS0 ?_
  obtain ⟨x0, hx0⟩ : ∃ x, x = w.drew := ⟨_, rfl⟩
  rw [← hx0] at hS0  ⊢
  clear hx0
  intro _
  refine wpAnyH_take (i := 0) (oi := { dst := some 3, op := .load 22 (.tmp 0), type := _, pos := _, after := _, guard := none }) (v := .pointer (some ⟨g, 0, none⟩)) rfl (by kernel_rfl) (by kernel_rfl) (by kernel_rfl) (fun _ _ _ h => h) (Or.inl ⟨by rfl, ?_⟩) hS0 ?_
  · intro wS hSw
    have z0 := (hSw.cell (lt_of_cell cd)).trans cd
    go_simp
  simp only [Act.put, List.setIfInBounds_toArray, List.set_cons_zero, List.set_cons_succ]
  refine wpAnyH_take (i := 1) (oi := { dst := some 4, op := .nilCheck (.tmp 3), type := _, pos := _, after := _, guard := none }) (v := .pointer (some ⟨g, 0, none⟩)) rfl (by kernel_rfl) (by kernel_rfl) (by kernel_rfl) (fun _ _ _ h => h) (Or.inl ⟨by rfl, ?_⟩) hS0 ?_
  · intro wS hSw
    go_simp
  simp only [Act.put, List.setIfInBounds_toArray, List.set_cons_zero, List.set_cons_succ]
  refine wpAnyH_take (i := 2) (oi := { dst := some 5, op := .fieldAddr 35 (.tmp 4) 2, type := _, pos := _, after := _, guard := none }) (v := .pointer (some ⟨g, 2, none⟩)) rfl (by kernel_rfl) (by kernel_rfl) (by kernel_rfl) (fun _ _ _ h => h) (Or.inl ⟨by rfl, ?_⟩) hS0 ?_
  · intro wS hSw
    go_simp
  simp only [Act.put, List.setIfInBounds_toArray, List.set_cons_zero, List.set_cons_succ]
  refine wpAnyH_take (i := 3) (oi := { dst := some 6, op := .load 33 (.tmp 5), type := _, pos := _, after := _, guard := none }) (v := .map (some mb)) rfl (by kernel_rfl) (by kernel_rfl) (by kernel_rfl) (fun _ _ _ h => h) (Or.inl ⟨by rfl, ?_⟩) hS0 ?_
  · intro wS hSw
    have z0 := (hSw.cell (lt_of_cell q)).trans q
    go_simp
  simp only [Act.put, List.setIfInBounds_toArray, List.set_cons_zero, List.set_cons_succ]
  refine wpAnyH_take (i := 4) (oi := { dst := some 7, op := .load 9 (.tmp 1), type := _, pos := _, after := _, guard := none }) (v := .string nm) rfl (by kernel_rfl) (by kernel_rfl) (by kernel_rfl) (fun _ _ _ h => h) (Or.inl ⟨by rfl, ?_⟩) hS0 ?_
  · intro wS hSw
    have z0 := (hSw.cell (lt_of_cell cn)).trans cn
    go_simp
  simp only [Act.put, List.setIfInBounds_toArray, List.set_cons_zero, List.set_cons_succ]
  refine wpAnyH_take (i := 5) (oi := { dst := some 8, op := .lookup 33 (.tmp 6) (.tmp 7) false, type := _, pos := _, after := _, guard := none }) (v := .agg #[.slice a n c, .int .i64 (sf : Int), .bool hd]) rfl (by kernel_rfl) (by kernel_rfl) (by kernel_rfl) (fun _ _ _ h => h) (Or.inl ⟨by rfl, ?_⟩) hS0 ?_
  · intro wS hSw
    have hz := HLk.out _ hSw
    go_simp
    try rw [hz]
    try rfl
  simp only [Act.put, List.setIfInBounds_toArray, List.set_cons_zero, List.set_cons_succ]
  refine wpAnyH_ready (rs := [6, 7]) (by kernel_rfl) (by simp) ?_
  refine AllReadyH.cons (o := { dst := some 9, op := .call { callee := .value (.func 55), args := #[.tmp 8], argTypes := #[66] }, type := _, pos := _, after := _, guard := none }) rfl (fun K hK => ?_) (AllReadyH.cons (o := { dst := some 2, op := .alloc 66, type := _, pos := _, after := _, guard := none }) rfl (fun K hK => ?_) AllReadyH.nil)
  · skip
    rw [if_pos (by rfl)]
    have sv1 := hS0.size
    go_wp2_with (go_at_call 55; refine (safely_any a n c sf hd x0).mono ?_; rintro e x1 ⟨rfl, hb1⟩)
    have sz1 := hb1.size
    have hS1 := hS0.trans (hb1.mono hS0.size)
    refine hK.out _ _ hS1 (fun _ => ?_)
    clear hK K
    refine wpAnyH_ready (rs := [7]) (by kernel_rfl) (by simp) ?_
    refine AllReadyH.cons (o := { dst := some 2, op := .alloc 66, type := _, pos := _, after := _, guard := none }) rfl (fun K hK => ?_) AllReadyH.nil
    rw [if_pos (by rfl)]
    have sv2 := hS1.size
    refine wp_alloc_at 66 rfl [Value.slice none 0 0, .int .i64 0, .bool false] _ z66 ?_
    intro x2 hA2 hb2 hs2
    have lt2 : x1.heap.size < x2.heap.size := hA2.lt
    clear hs2
    have sz2 := hb2.size
    have hS2 := hS1.trans (hb2.mono hS1.size)
    refine hK.out _ _ hS2 (fun _ => ?_)
    clear hK K
    refine wpAnyH_ready (rs := [8]) (by kernel_rfl) (by simp) ?_
    refine AllReadyH.cons (o := { dst := none, op := .store 66 (.tmp 2) (.tmp 9), type := _, pos := _, after := _, guard := none }) rfl (fun K hK => ?_) AllReadyH.nil
    rw [if_pos (by rfl)]
    have sv3 := hS2.size
    refine wp_store3 (.tmp 2) (.tmp 9) rfl (x1.heap.size) [.slice a n c, .int .i64 (n : Int), .bool hd] rfl rfl _ hA2 rfl rfl one3 ?_
    intro x3 hA3 hb3 hs3
    clear hA2
    have sz3 := hb3.size
    have hS3 := hb3.below hS2 sv2 hS2.size
    refine hK.out _ _ hS3 (fun _ => ?_)
    clear hK K
    refine wpAnyH_done (by kernel_rfl) ?_ _
    have hAG := hA3
    have HBx := hidU (hS3)
    have hGl : w.heap.size ≤ x1.heap.size := sv2
    obtain ⟨G, hG⟩ : ∃ G, G = x1.heap.size := ⟨_, rfl⟩
    rw [← hG] at hAG hGl ⊢
    clear hG
    clear hS0 hb1 sv1 sz1 hS1 hb2 sv2 sz2 hS2 lt2 hb3 sv3 sz3 hS3 hs3 hA3
    go_wp2_with (refine wpList_store1 rfl 4 (.tmp 10) (.const (.bool true)) rfl G 2 (.bool true) rfl rfl 66 _ hAG (by simp) i4 rfl rfl ?_; intro y4 hAG4 hb4 hs4; refine Hid.out ?_)
    simp only [List.set] at hAG4
    refine hidU ?_
    have HO4 : Hid (OwnX eB B y4 (.slice a n c) bs) := hidU (((HO.out.below HBx.out)).same fun k hk => hb4.block k ((HO.out.below HBx.out).block k hk).2.1 (by
      rintro rfl
      obtain ⟨_, _, cs, hA⟩ := (HO.out.below HBx.out).block k hk
      exact hA.ne hAG (show (5 : Nat) ≠ 66 by decide) rfl))
    have C4 := hidU ((Chg.of_below (K := OfF m nm) HBx.out).more (Chg.of_but (K := fun k => k = G) hb4 rfl) (fun i hi e => by omega))
    have c1 : y4.cell? ⟨kd, 0, none⟩ = some (.pointer (some ⟨g, 0, none⟩)) := by rw [(hb4.at (HA1.out.below HBx.out) ((HA1.out.below HBx.out).ne hAG (by decide))).cell]; rfl
    have c2 : y4.cell? ⟨kn, 0, none⟩ = some (.string nm) := by rw [(hb4.at (HA2.out.below HBx.out) ((HA2.out.below HBx.out).ne hAG (by decide))).cell]; rfl
    have HP := hidU (put_wrt H.out h40 a n c bs n true y4 C4.out HO4.out (fun k hk => .inl (HB.out k hk)))
    clear hb4 hs4 hAG cd cn q
    go_wp2_with (first
      | (refine wpList_load_at rfl 66 (.tmp 2) rfl G rfl 66 _ hAG4 _ Tryd.underlying66 rfl i66 ?_)
      | (go_at_call 38; refine HP.out.mono ?_; rintro _ x5 ⟨rfl, hW⟩))
    go_end0
    exact ⟨rfl, by rw [hn]; exact hW⟩
    
  · skip
    rw [if_pos (by rfl)]
    have sv1 := hS0.size
    refine wp_alloc_at 66 rfl [Value.slice none 0 0, .int .i64 0, .bool false] _ z66 ?_
    intro x1 hA1 hb1 hs1
    have lt1 : x0.heap.size < x1.heap.size := hA1.lt
    clear hs1
    have sz1 := hb1.size
    have hS1 := hS0.trans (hb1.mono hS0.size)
    refine hK.out _ _ hS1 (fun _ => ?_)
    clear hK K
    refine wpAnyH_ready (rs := [6]) (by kernel_rfl) (by simp) ?_
    refine AllReadyH.cons (o := { dst := some 9, op := .call { callee := .value (.func 55), args := #[.tmp 8], argTypes := #[66] }, type := _, pos := _, after := _, guard := none }) rfl (fun K hK => ?_) AllReadyH.nil
    rw [if_pos (by rfl)]
    have sv2 := hS1.size
    go_wp2_with (go_at_call 55; refine (safely_any a n c sf hd x1).mono ?_; rintro e x2 ⟨rfl, hb2⟩)
    have sz2 := hb2.size
    have hS2 := hS1.trans (hb2.mono hS1.size)
    refine hK.out _ _ hS2 (fun _ => ?_)
    clear hK K
    refine wpAnyH_ready (rs := [8]) (by kernel_rfl) (by simp) ?_
    refine AllReadyH.cons (o := { dst := none, op := .store 66 (.tmp 2) (.tmp 9), type := _, pos := _, after := _, guard := none }) rfl (fun K hK => ?_) AllReadyH.nil
    rw [if_pos (by rfl)]
    have sv3 := hS2.size
    refine wp_store3 (.tmp 2) (.tmp 9) rfl (x0.heap.size) [.slice a n c, .int .i64 (n : Int), .bool hd] rfl rfl _ (hA1.below hb2) rfl rfl one3 ?_
    intro x3 hA3 hb3 hs3
    clear hA1
    have sz3 := hb3.size
    have hS3 := hb3.below hS2 sv1 hS2.size
    refine hK.out _ _ hS3 (fun _ => ?_)
    clear hK K
    refine wpAnyH_done (by kernel_rfl) ?_ _
    have hAG := hA3
    have HBx := hidU (hS3)
    have hGl : w.heap.size ≤ x0.heap.size := sv1
    obtain ⟨G, hG⟩ : ∃ G, G = x0.heap.size := ⟨_, rfl⟩
    rw [← hG] at hAG hGl ⊢
    clear hG
    clear hS0 hb1 sv1 sz1 hS1 lt1 hb2 sv2 sz2 hS2 hb3 sv3 sz3 hS3 hs3 hA3
    go_wp2_with (refine wpList_store1 rfl 4 (.tmp 10) (.const (.bool true)) rfl G 2 (.bool true) rfl rfl 66 _ hAG (by simp) i4 rfl rfl ?_; intro y4 hAG4 hb4 hs4; refine Hid.out ?_)
    simp only [List.set] at hAG4
    refine hidU ?_
    have HO4 : Hid (OwnX eB B y4 (.slice a n c) bs) := hidU (((HO.out.below HBx.out)).same fun k hk => hb4.block k ((HO.out.below HBx.out).block k hk).2.1 (by
      rintro rfl
      obtain ⟨_, _, cs, hA⟩ := (HO.out.below HBx.out).block k hk
      exact hA.ne hAG (show (5 : Nat) ≠ 66 by decide) rfl))
    have C4 := hidU ((Chg.of_below (K := OfF m nm) HBx.out).more (Chg.of_but (K := fun k => k = G) hb4 rfl) (fun i hi e => by omega))
    have c1 : y4.cell? ⟨kd, 0, none⟩ = some (.pointer (some ⟨g, 0, none⟩)) := by rw [(hb4.at (HA1.out.below HBx.out) ((HA1.out.below HBx.out).ne hAG (by decide))).cell]; rfl
    have c2 : y4.cell? ⟨kn, 0, none⟩ = some (.string nm) := by rw [(hb4.at (HA2.out.below HBx.out) ((HA2.out.below HBx.out).ne hAG (by decide))).cell]; rfl
    have HP := hidU (put_wrt H.out h40 a n c bs n true y4 C4.out HO4.out (fun k hk => .inl (HB.out k hk)))
    clear hb4 hs4 hAG cd cn q
    go_wp2_with (first
      | (refine wpList_load_at rfl 66 (.tmp 2) rfl G rfl 66 _ hAG4 _ Tryd.underlying66 rfl i66 ?_)
      | (go_at_call 38; refine HP.out.mono ?_; rintro _ x5 ⟨rfl, hW⟩))
    go_end0
    exact ⟨rfl, by rw [hn]; exact hW⟩
    

theorem remove_c (B g mb : Nat) (w : World) (m : FMap) (sz wr : Nat) (lf : Int) (nm : ByteArray) (kd kn : Nat) (h : Ds B w g mb m sz lf wr)
    (hd_ : At 22 w kd [.pointer (some ⟨g, 0, none⟩)]) (hn_ : At 9 w kn [.string nm]) (hs : nm.size ≤ maxLen) :
    Calls Tryd.prog 57 #[.pointer (some ⟨kd, 0, none⟩), .pointer (some ⟨kn, 0, none⟩)] w fun r w' => r = .returned (.tuple #[]) ∧ Wrt B w w' mb m (delM m nm) := by
  have H := hidU h
  have HP := hidU h.mp
  have cd : w.cell? ⟨kd, 0, none⟩ = some (.pointer (some ⟨g, 0, none⟩)) := by rw [hd_.cell]; rfl
  have cn : w.cell? ⟨kn, 0, none⟩ = some (.string nm) := by rw [hn_.cell]; rfl
  have q := h.files
  clear h hd_ hn_
  go_enter Tryd.func57, Tryd.ntmps57
  go_wp2
  have hS0 : Below w.heap.size w w.drew := Below.drew (Below.refl _ _)
  refine wp_region_S (S := fun xS => Below w.heap.size w xS) (St := [5]) (by kernel_rfl) hS0 ?_
  obtain ⟨x0, hx0⟩ : ∃ x, x = w.drew := ⟨_, rfl⟩
  rw [← hx0] at hS0  ⊢
  clear hx0
  intro hH
  refine wpAnyS_take [1, 2, 3, 5] (i := 0) (oi := { dst := some 2, op := .load 22 (.tmp 0), type := _, pos := _, after := _, guard := none }) (v := .pointer (some ⟨g, 0, none⟩)) rfl (by kernel_rfl) (by kernel_rfl) (by kernel_rfl) (by kernel_rfl) (by kernel_rfl) (by kernel_rfl) (by kernel_rfl) (fun _ _ _ h => h) (Or.inl ⟨by rfl, ?_⟩) hH (fun hH => ?_)
  · intro wS hSw
    have z0 := (hSw.cell (lt_of_cell cd)).trans cd
    go_simp
  simp only [Act.put, List.setIfInBounds_toArray, List.set_cons_zero, List.set_cons_succ]
  refine wpAnyS_pure (i := 1) (oi := { dst := some 3, op := .nilCheck (.tmp 2), type := _, pos := _, after := _, guard := none }) (v := .pointer (some ⟨g, 0, none⟩)) rfl (by kernel_rfl) (by kernel_rfl) (by kernel_rfl) (by kernel_rfl) (fun _ _ _ h => h) (Or.inl ⟨by rfl, ?_⟩) hH (fun hH => ?_)
  · intro wS hSw
    go_simp
  simp only [Act.put, List.setIfInBounds_toArray, List.set_cons_zero, List.set_cons_succ]
  refine wpAnyS_pure (i := 2) (oi := { dst := some 4, op := .fieldAddr 35 (.tmp 3) 2, type := _, pos := _, after := _, guard := none }) (v := .pointer (some ⟨g, 2, none⟩)) rfl (by kernel_rfl) (by kernel_rfl) (by kernel_rfl) (by kernel_rfl) (fun _ _ _ h => h) (Or.inl ⟨by rfl, ?_⟩) hH (fun hH => ?_)
  · intro wS hSw
    go_simp
  simp only [Act.put, List.setIfInBounds_toArray, List.set_cons_zero, List.set_cons_succ]
  refine wpAnyS_take [5] (i := 3) (oi := { dst := some 5, op := .load 33 (.tmp 4), type := _, pos := _, after := _, guard := none }) (v := .map (some mb)) rfl (by kernel_rfl) (by kernel_rfl) (by kernel_rfl) (by kernel_rfl) (by kernel_rfl) (by kernel_rfl) (by kernel_rfl) (fun _ _ _ h => h) (Or.inl ⟨by rfl, ?_⟩) hH (fun hH => ?_)
  · intro wS hSw
    have z0 := (hSw.cell (lt_of_cell q)).trans q
    go_simp
  simp only [Act.put, List.setIfInBounds_toArray, List.set_cons_zero, List.set_cons_succ]
  refine wpAnyS_take [5] (i := 4) (oi := { dst := some 6, op := .load 9 (.tmp 1), type := _, pos := _, after := _, guard := none }) (v := .string nm) rfl (by kernel_rfl) (by kernel_rfl) (by kernel_rfl) (by kernel_rfl) (by kernel_rfl) (by kernel_rfl) (by kernel_rfl) (fun _ _ _ h => h) (Or.inl ⟨by rfl, ?_⟩) hH (fun hH => ?_)
  · intro wS hSw
    have z0 := (hSw.cell (lt_of_cell cn)).trans cn
    go_simp
  simp only [Act.put, List.setIfInBounds_toArray, List.set_cons_zero, List.set_cons_succ]
  refine wpAnyS_ready (rs := [5]) (by kernel_rfl) (by simp) ?_
  refine AllReadyS.cons (o := { dst := none, op := .call { callee := .builtin .delete, args := #[.tmp 5, .tmp 6], argTypes := #[33, 9] }, type := _, pos := _, after := _, guard := none }) rfl (fun K hK => ?_) AllReadyS.nil
  rw [if_pos (by rfl)]
  refine wp_del mF (.tmp 5) (.tmp 6) rfl nm rfl rfl (HP.out.below hS0) hs ?_
  intro x1 hM1 hb1 hs1
  refine hK.out _ _ (Hold.over (s := 5) (by decide) (by rfl)) (fun hH => ?_)
  clear hK K
  refine wpAnyS_done (by kernel_rfl) ?_ _
  go_end0
  exact ⟨rfl, (Wrt.del (H.out.below hS0) hM1 hb1).from hS0⟩

end Go.Proofs.YtcmkjjlchljffaaDoor

/- The landed disk: what Cut and Rename do, each by its closure. -/
namespace Go.Proofs.YtcmkjjlchljffaaDoor
open Go.RowKit
set_option linter.unusedVariables false
set_option maxRecDepth 100000
set_option maxHeartbeats 6400000

theorem Wrt.same {B g mb sz wr : Nat} {lf : Int} {w w' : World} {m : FMap} (h : Ds B w g mb m sz lf wr) (hb : Below w.heap.size w w') : Wrt B w w' mb m m :=
  ⟨h.mp.below hb, fun p hp => (h.own p hp).below hb, h.apart, h.ns, Chg.of_below hb, fun p hp k hk => .inl ⟨p, hp, hk⟩⟩
theorem own_slice' {α : Type} {e : El α} {base : Nat} {w : World} {v : Value} {xs : List α} (h : OwnX e base w v xs) : ∃ a n c, v = .slice a n c := by
  obtain ⟨a, c, e, _⟩ := h.row
  exact ⟨a, _, c, e⟩
theorem cut_c (B g mb : Nat) (w0 w : World) (m : FMap) (sz wr : Nat) (lf : Int) (nm : ByteArray) (kf kz kd kn z : Nat) (a : Option Addr) (n c : Nat) (bs : List UInt8) (sf : Nat) (hd : Bool) (h : Ds B w0 g mb m sz lf wr) (hb0 : Below w0.heap.size w0 w) (hsf : ∀ p ∈ m, p.2.sf ≤ p.2.bs.length)
    (hl : lookM m nm = some ⟨.slice a n c, bs, sf, hd⟩) (hf_ : At 66 w kf [.slice a n c, .int .i64 (sf : Int), .bool hd]) (hz_ : At 3 w kz [.int .i64 (z : Int)]) (hd_ : At 22 w kd [.pointer (some ⟨g, 0, none⟩)]) (hn_ : At 9 w kn [.string nm]) (hkf : w0.heap.size ≤ kf) (hz : z ≤ n)
    (hsum : sumM m ≤ 67108864) :
    Calls Tryd.prog 52 #[.pointer (some ⟨kf, 0, none⟩), .pointer (some ⟨kz, 0, none⟩), .pointer (some ⟨kd, 0, none⟩), .pointer (some ⟨kn, 0, none⟩)] w fun r w' => r = .returned (.tuple #[]) ∧ ∃ v, Wrt B w0 w' mb m (updM m nm ⟨v, bs.take z, min sf z, true⟩) := by
  have h40 := h.ns _ (look_mem hl)
  have hm1 := sum_mem (look_mem hl)
  have hs1 := hsf _ (look_mem hl)
  obtain ⟨a', n', c', bs', sf', hd', e, hn, hnc, _, hn0, hR, hO⟩ := look_parts h hl
  injection e with e1 e2 e3 e4
  injection e1 with e5 e6 e7
  subst e5 e6 e7 e2 e3 e4
  simp only [hn] at hm1 hs1
  obtain ⟨M, hM⟩ : ∃ M, Hid (M = min sf z) := ⟨_, (rfl : _ = min sf z)⟩
  rw [← hM.out]
  have HC := hidU (cut_any a n c bs sf hd z w (hR.below hb0) hn hnc hn0 hz (by omega) hs1)
  rw [← hM.out] at HC
  have H := hidU h
  have HB0 := hidU hb0
  have HD := hidU hd_
  have HN := hidU hn_
  have cz : w.cell? ⟨kz, 0, none⟩ = some (.int .i64 (z : Int)) := by rw [hz_.cell]; rfl
  clear h hb0 hsf hl hd_ hn_ hz_ hR hO
  go_enter Tryd.func52, Tryd.ntmps52
  go_wp2_with (first
    | (refine wpList_load_at rfl 66 (.tmp 0) rfl kf rfl 66 _ hf_ _ Tryd.underlying66 rfl i66 ?_)
    | (go_at_call 53; refine HC.out.mono ?_; rintro _ w1 ⟨v, rfl, hO1, hb1⟩; have hf1 := hf_.below hb1; obtain ⟨av, nl, cv, rfl⟩ := own_slice' hO1)
    | (refine wpList_store_at rfl 66 (.tmp 0) (.tmp 6) rfl kf [.slice av nl cv, .int .i64 (M : Int), .bool hd] rfl rfl 66 _ hf1 i66 rfl one3 ?_; intro w2 hf2 hb2 hs2; refine Hid.out ?_))
  refine hidU ?_
  have HB1 := hidU (HB0.out.trans (hb1.mono HB0.out.size))
  have lw := HD.out.lt
  have neK : ∀ k, (Value.slice av nl cv).ownBlock = some k → k ≠ kf := fun k hk => by
    obtain ⟨_, _, cs, hA⟩ := hO1.block k hk
    exact hA.ne hf1 (by decide)
  have HO2 : Hid (OwnX eB w.heap.size w2 (.slice av nl cv) (bs.take z)) := hidU (hO1.same fun k hk => hb2.block k (hO1.block k hk).2.1 (neK k hk))
  have C2 := hidU (hb2.below HB1.out hkf HB1.out.size)
  have HD2 := hidU (hb2.at (HD.out.below hb1) ((HD.out.below hb1).ne hf1 (by decide)))
  have HN2 := hidU (hb2.at (HN.out.below hb1) ((HN.out.below hb1).ne hf1 (by decide)))
  clear hb1 hb2 hs2 hO1 hf1 hf_ neK cz HC HB1 lw
  go_wp2_with (refine wpList_store1 rfl 4 (.tmp 7) (.const (.bool true)) rfl kf 2 (.bool true) rfl rfl 66 _ hf2 (by simp) i4 rfl rfl ?_; intro w3 hf3 hb3 hs3; refine Hid.out ?_)
  simp only [List.set] at hf3
  refine hidU ?_
  have lw0 := HB0.out.size
  have C3 := hidU (hb3.below C2.out hkf C2.out.size)
  have HO3 : Hid (OwnX eB w.heap.size w3 (.slice av nl cv) (bs.take z)) := hidU (HO2.out.same fun k hk => hb3.block k (HO2.out.block k hk).2.1 (by
    rintro rfl
    obtain ⟨_, _, cs, hA⟩ := HO2.out.block k hk
    exact hA.ne hf2 (show (5 : Nat) ≠ 66 by decide) rfl))
  have c1 : w3.cell? ⟨kd, 0, none⟩ = some (.pointer (some ⟨g, 0, none⟩)) := by rw [(hb3.at HD2.out (HD2.out.ne hf2 (by decide))).cell]; rfl
  have c2 : w3.cell? ⟨kn, 0, none⟩ = some (.string nm) := by rw [(hb3.at HN2.out (HN2.out.ne hf2 (by decide))).cell]; rfl
  have hBw : B ≤ w.heap.size := Nat.le_trans H.out.bg (Nat.le_of_lt (Nat.lt_of_lt_of_le (heapLt H.out.at_) lw0))
  have HP := hidU (put_wrt H.out h40 av nl cv (bs.take z) M true w3 (Chg.of_below C3.out) (HO3.out.less hBw) (fun k hk => .inr (Nat.le_trans lw0 (HO3.out.block k hk).1)))
  clear hb3 hs3 hf2 HD2 HN2 C2 C3 HO2
  go_wp2_with (first
    | (refine wpList_load_at rfl 66 (.tmp 0) rfl kf rfl 66 _ hf3 _ Tryd.underlying66 rfl i66 ?_)
    | (go_at_call 38; refine HP.out.mono ?_; rintro _ x5 ⟨rfl, hW⟩))
  go_end0
  exact ⟨rfl, _, hW⟩
theorem rename_c (B g mb : Nat) (w0 w : World) (m : FMap) (sz wr : Nat) (lf : Int) (nm to : ByteArray) (kf kt kd kn : Nat) (a : Option Addr) (n c : Nat) (bs : List UInt8) (sf : Nat) (hd : Bool) (h : Ds B w0 g mb m sz lf wr) (hb0 : Below w0.heap.size w0 w)
    (hl : lookM m nm = some ⟨.slice a n c, bs, sf, hd⟩) (hf_ : At 66 w kf [.slice a n c, .int .i64 (sf : Int), .bool hd]) (ht_ : At 9 w kt [.string to]) (hd_ : At 22 w kd [.pointer (some ⟨g, 0, none⟩)]) (hn_ : At 9 w kn [.string nm]) (hkf : w0.heap.size ≤ kf) (hne : nm ≠ to) (hto : to.size ≤ 40) :
    Calls Tryd.prog 56 #[.pointer (some ⟨kn, 0, none⟩), .pointer (some ⟨kt, 0, none⟩), .pointer (some ⟨kf, 0, none⟩), .pointer (some ⟨kd, 0, none⟩)] w fun r w' => r = .returned (.tuple #[]) ∧ Wrt B w0 w' mb m (delM (updM m to ⟨.slice a n c, bs, sf, true⟩) nm) := by
  have h40 := h.ns _ (look_mem hl)
  have hs : nm.size ≤ maxLen := by simp only at h40; unfold maxLen; omega
  have hq : ¬ nm.toList = to.toList := fun e => hne (toL_inj e)
  have hq2 : (nm.toList == to.toList) = false := by rw [beq_eq_false_iff_ne]; exact hq
  have H := hidU h
  have HL := hidU hl
  have HB0 := hidU hb0
  have HD := hidU hd_
  have HN := hidU hn_
  have HT := hidU ht_
  have c1 : w.cell? ⟨kt, 0, none⟩ = some (.string to) := by rw [ht_.cell]; rfl
  have c2 : w.cell? ⟨kn, 0, none⟩ = some (.string nm) := by rw [hn_.cell]; rfl
  have lw0 := hb0.size
  have Hs0 := hidU h.mp
  clear h hb0 hl hd_ hn_ ht_ h40
  go_enter Tryd.func56, Tryd.ntmps56
  go_wp2_with (refine wpList_store1 rfl 4 (.tmp 7) (.const (.bool true)) rfl kf 2 (.bool true) rfl rfl 66 _ hf_ (by simp) i4 rfl rfl ?_; intro w3 hf3 hb3 hs3; refine Hid.out ?_)
  simp only [List.set] at hf3
  refine hidU ?_
  have HD3 := hidU (hb3.at HD.out (HD.out.ne hf_ (by decide)))
  have HN3 := hidU (hb3.at HN.out (HN.out.ne hf_ (by decide)))
  have HT3 := hidU (hb3.at HT.out (HT.out.ne hf_ (by decide)))
  have HB3 := hidU (hb3.below HB0.out hkf lw0)
  clear c1 c2 hb3 hs3 hf_
  have c1 : w3.cell? ⟨kd, 0, none⟩ = some (.pointer (some ⟨g, 0, none⟩)) := by rw [HD3.out.cell]; rfl
  have c2 : w3.cell? ⟨kt, 0, none⟩ = some (.string to) := by rw [HT3.out.cell]; rfl
  have HP := hidU (put_any g mb m a n c bs sf true to w3 (by rw [(H.out.below HB3.out).at_.cell]; rfl) (Hs0.out.below HB3.out) (by omega))
  go_wp2_with (first
    | (refine wpList_load_at rfl 66 (.tmp 2) rfl kf rfl 66 _ hf3 _ Tryd.underlying66 rfl i66 ?_)
    | (go_at_call 38; refine HP.out.mono ?_; rintro _ y5 ⟨rfl, hM5, y4, hy4, hb5⟩; refine Hid.out ?_))
  refine hidU ?_
  have HB4 := hidU (HB3.out.trans (hy4.mono HB3.out.size))
  have HM := hidU hM5
  have HBm := hidU hb5
  have DS4 := hidU (H.out.below HB4.out)
  have q5 : y5.cell? ⟨g, 2, none⟩ = some (.map (some mb)) := by rw [(hb5.at DS4.out.at_ DS4.out.ne).cell]; rfl
  have nm1 : ∀ (t : TypeId) (k : Nat) (cs : List Value), At t y4 k cs → k ≠ mb := fun t k cs hA e => by
    obtain ⟨arr, clock, h1, _⟩ := DS4.out.mp
    have h2 : y4.heap[k]? = some (Obj.cells cs.toArray t (0, 0)) := hA
    rw [e, h1] at h2
    cases h2
  clear c1 c2
  have c1 : y5.cell? ⟨kd, 0, none⟩ = some (.pointer (some ⟨g, 0, none⟩)) := by rw [(hb5.at (HD3.out.below hy4) (nm1 _ _ _ (HD3.out.below hy4))).cell]; rfl
  have c2 : y5.cell? ⟨kn, 0, none⟩ = some (.string nm) := by rw [(hb5.at (HN3.out.below hy4) (nm1 _ _ _ (HN3.out.below hy4))).cell]; rfl
  clear hy4 hb5 hM5 nm1 hf3
  go_wp2
  have hS0 : Below y5.heap.size y5 y5.drew := Below.drew (Below.refl _ _)
  refine wp_region_S (S := fun xS => Below y5.heap.size y5 xS) (St := [5]) (by kernel_rfl) hS0 ?_
  obtain ⟨x0, hx0⟩ : ∃ x, x = y5.drew := ⟨_, rfl⟩
  rw [← hx0] at hS0  ⊢
  clear hx0
  intro hH
  refine wpAnyS_take [1, 2, 3, 5] (i := 0) (oi := { dst := some 12, op := .load 22 (.tmp 3), type := _, pos := _, after := _, guard := none }) (v := .pointer (some ⟨g, 0, none⟩)) rfl (by kernel_rfl) (by kernel_rfl) (by kernel_rfl) (by kernel_rfl) (by kernel_rfl) (by kernel_rfl) (by kernel_rfl) (fun _ _ _ h => h) (Or.inl ⟨by rfl, ?_⟩) hH (fun hH => ?_)
  · intro wS hSw
    have z0 := (hSw.cell (lt_of_cell c1)).trans c1
    go_simp
  simp only [Act.put, List.setIfInBounds_toArray, List.set_cons_zero, List.set_cons_succ]
  refine wpAnyS_pure (i := 1) (oi := { dst := some 13, op := .nilCheck (.tmp 12), type := _, pos := _, after := _, guard := none }) (v := .pointer (some ⟨g, 0, none⟩)) rfl (by kernel_rfl) (by kernel_rfl) (by kernel_rfl) (by kernel_rfl) (fun _ _ _ h => h) (Or.inl ⟨by rfl, ?_⟩) hH (fun hH => ?_)
  · intro wS hSw
    go_simp
  simp only [Act.put, List.setIfInBounds_toArray, List.set_cons_zero, List.set_cons_succ]
  refine wpAnyS_pure (i := 2) (oi := { dst := some 14, op := .fieldAddr 35 (.tmp 13) 2, type := _, pos := _, after := _, guard := none }) (v := .pointer (some ⟨g, 2, none⟩)) rfl (by kernel_rfl) (by kernel_rfl) (by kernel_rfl) (by kernel_rfl) (fun _ _ _ h => h) (Or.inl ⟨by rfl, ?_⟩) hH (fun hH => ?_)
  · intro wS hSw
    go_simp
  simp only [Act.put, List.setIfInBounds_toArray, List.set_cons_zero, List.set_cons_succ]
  refine wpAnyS_take [5] (i := 3) (oi := { dst := some 15, op := .load 33 (.tmp 14), type := _, pos := _, after := _, guard := none }) (v := .map (some mb)) rfl (by kernel_rfl) (by kernel_rfl) (by kernel_rfl) (by kernel_rfl) (by kernel_rfl) (by kernel_rfl) (by kernel_rfl) (fun _ _ _ h => h) (Or.inl ⟨by rfl, ?_⟩) hH (fun hH => ?_)
  · intro wS hSw
    have z0 := (hSw.cell (lt_of_cell q5)).trans q5
    go_simp
  simp only [Act.put, List.setIfInBounds_toArray, List.set_cons_zero, List.set_cons_succ]
  refine wpAnyS_take [5] (i := 4) (oi := { dst := some 16, op := .load 9 (.tmp 0), type := _, pos := _, after := _, guard := none }) (v := .string nm) rfl (by kernel_rfl) (by kernel_rfl) (by kernel_rfl) (by kernel_rfl) (by kernel_rfl) (by kernel_rfl) (by kernel_rfl) (fun _ _ _ h => h) (Or.inl ⟨by rfl, ?_⟩) hH (fun hH => ?_)
  · intro wS hSw
    have z0 := (hSw.cell (lt_of_cell c2)).trans c2
    go_simp
  simp only [Act.put, List.setIfInBounds_toArray, List.set_cons_zero, List.set_cons_succ]
  refine wpAnyS_ready (rs := [5]) (by kernel_rfl) (by simp) ?_
  refine AllReadyS.cons (o := { dst := none, op := .call { callee := .builtin .delete, args := #[.tmp 15, .tmp 16], argTypes := #[33, 9] }, type := _, pos := _, after := _, guard := none }) rfl (fun K hK => ?_) AllReadyS.nil
  rw [if_pos (by rfl)]
  refine wp_del mF (.tmp 15) (.tmp 16) rfl nm rfl rfl (HM.out.below hS0) hs ?_
  intro x1 hM1 hb1 hs1
  refine hK.out _ _ (Hold.over (s := 5) (by decide) (by rfl)) (fun hH => ?_)
  clear hK K
  refine wpAnyS_done (by kernel_rfl) ?_ _
  go_end0
  refine ⟨rfl, ?_⟩
  have W1 := Wrt.ren (w' := x1) (H.out.below HB4.out) HL.out hne true hto (by exact hM1) (HBm.out.trans ((But.of_below hS0).trans hb1))
  exact W1.from HB4.out

end Go.Proofs.YtcmkjjlchljffaaDoor

/- The landed disk: a write is done, if there is power. -/
namespace Go.Proofs.YtcmkjjlchljffaaDoor
open Go.RowKit
set_option linter.unusedVariables false
set_option maxRecDepth 100000
set_option maxHeartbeats 6400000

/-- A write was done. -/
structure Dn (B : Nat) (w w' : World) (g mb : Nat) (m m' : FMap) (sz : Nat) (lf : Int) (wr : Nat) : Prop where
  ds : Ds B w' g mb m' sz lf wr
  chg : Chg (FW g mb m) w w'
  new : ∀ k, FW g mb m' k → FW g mb m k ∨ w.heap.size ≤ k
theorem Wrt.dn {B g mb sz wr wr' : Nat} {lf lf' : Int} {w w' w2 : World} {m m' : FMap} (h : Ds B w g mb m sz lf wr) (k : Wrt B w w' mb m m') (hb : But g w' w2) (hA : At 35 w2 g [.pointer (some ⟨g, 0, none⟩), .int .i64 (sz : Int), .map (some mb), .int .i64 lf', .int .i64 (wr' : Int)]) : Dn B w w2 g mb m m' sz lf' wr' :=
  ⟨k.ds h hb hA, (k.chg.mono fun i _ e => .inr e).trans (Chg.of_but hb (.inl rfl)), fun i hi => by
    rcases hi with e | e | ⟨p, hp, e⟩
    · exact .inl (.inl e)
    · exact .inl (.inr (.inl e))
    · exact (k.new p hp i e).imp (fun q => .inr (.inr q)) id⟩
/-- How much power is left behind a write. -/
def lfD (lf : Int) : Int := if 0 < lf then lf - 1 else lf
theorem write_37 (B g mb : Nat) (w0 w : World) (m : FMap) (sz wr : Nat) (lf : Int) (k1 k2 k3 : Nat) (P : FMap → Prop) (h : Ds B w0 g mb m sz lf wr) (hb0 : Below w0.heap.size w0 w) (hwr : wr ≤ 4611686018427387904) (hlf : -1 ≤ lf) (hlg : lf ≤ 9223372036854775807)
    (HC : Calls Tryd.prog 37 #[.pointer (some ⟨k1, 0, none⟩), .pointer (some ⟨k2, 0, none⟩), .pointer (some ⟨k3, 0, none⟩)] w fun r w' => r = .returned (.tuple #[]) ∧ ∃ m', P m' ∧ Wrt B w0 w' mb m m') :
    Calls Tryd.prog 36 #[.pointer (some ⟨g, 0, none⟩), .func (.func 37) #[] #[.pointer (some ⟨k1, 0, none⟩), .pointer (some ⟨k2, 0, none⟩), .pointer (some ⟨k3, 0, none⟩)]] w fun r w' => (lf = 0 ∧ r = .returned (.int .i64 13) ∧ w' = w) ∨ (lf ≠ 0 ∧ r = .returned (.int .i64 0) ∧ ∃ m', P m' ∧ Dn B w0 w' g mb m m' sz (lfD lf) (wr + 1)) := by
  have HS := hidU (stopped_p (h.below hb0))
  have H := hidU h
  have HC := hidU HC
  clear h hb0
  by_cases hl : lf = 0
  · subst hl
    go_enter Tryd.func36, Tryd.ntmps36
    go_wp2_with (go_at_call 24; refine HS.out.mono ?_; rintro _ w1 ⟨rfl, hw⟩; obtain rfl : w = w1 := hw.symm; clear hw)
    go_ret
    exact .inl ⟨by first | rfl | trivial, rfl, rfl⟩
  · have HS2 : Hid (Calls Tryd.prog 24 #[.pointer (some ⟨g, 0, none⟩)] w fun r w' => r = .returned (.bool false) ∧ w' = w) := by
      refine hidU (HS.out.mono ?_)
      rintro r w' ⟨rfl, h⟩
      exact ⟨by rw [beq_eq_false_iff_ne.2 hl], h⟩
    clear HS
    obtain ⟨L, hL⟩ : ∃ L, Hid (L = lfD lf) := ⟨_, (rfl : _ = lfD lf)⟩
    rw [← hL.out]
    have hww : IntKind.i64.wrap ((wr : Int) + 1) = (wr : Int) + 1 := by rw [IntKind.wrap_i64]; omega
    go_enter Tryd.func36, Tryd.ntmps36
    go_wp2_with (first
      | (go_at_call 24; refine HS2.out.mono ?_; rintro _ w1 ⟨rfl, hw⟩; obtain rfl : w = w1 := hw.symm; clear hw)
      | (go_at_call 37; refine HC.out.mono ?_; rintro _ w1 ⟨rfl, m', hP, hW⟩; refine Hid.out ?_))
    refine hidU ?_
    have hA := hW.at_ H.out H.out.at_
    have HW := hidU hW
    clear hW HC HS2
    have q := hA.cell 4
    simp only [List.getElem?_cons_zero, List.getElem?_cons_succ] at q
    go_wp2_with (refine wpList_store1 rfl 3 (.tmp 15) (.tmp 13) rfl g 4 (.int .i64 ((wr : Int) + 1)) rfl rfl 35 _ hA (by simp) i3 rfl rfl ?_; intro w2 hA2 hb2 hs2; simp only [List.set] at hA2; refine Hid.out ?_)
    refine hidU ?_
    have HB2 := hidU hb2
    clear q hs2 hb2 hA
    have q := hA2.cell 3
    simp only [List.getElem?_cons_zero, List.getElem?_cons_succ] at q
    by_cases hm1 : lf = -1
    · subst hm1
      have hL2 : L = -1 := hL.out
      subst hL2
      go_wp2
      go_ret
      exact .inr ⟨hl, rfl, m', hP, HW.out.dn H.out HB2.out (by simpa using hA2)⟩
    · have hpos : 0 < lf := by omega
      have hwl : IntKind.i64.wrap (lf - 1) = lf - 1 := by rw [IntKind.wrap_i64]; omega
      have hL2 : L = lf - 1 := by rw [hL.out]; unfold lfD; rw [if_pos hpos]
      subst hL2
      have HN := hidU (show lf ≠ 0 from hl)
      clear hpos hlf hlg hL
      go_wp2_with (refine wpList_store1 rfl 3 (.tmp 27) (.tmp 25) rfl g 3 (.int .i64 (lf - 1)) rfl rfl 35 _ hA2 (by simp) i3 rfl rfl ?_; intro w3 hA3 hb3 hs3; simp only [List.set] at hA3; refine Hid.out ?_)
      refine hidU ?_
      have HB3 := hidU (HB2.out.trans hb3)
      clear q hs3 hb3 hA2
      go_wp2
      go_ret
      exact .inr ⟨HN.out, rfl, m', hP, HW.out.dn H.out HB3.out (by simpa using hA3)⟩
theorem write_52 (B g mb : Nat) (w0 w : World) (m : FMap) (sz wr : Nat) (lf : Int) (k1 k2 k3 k4 : Nat) (P : FMap → Prop) (h : Ds B w0 g mb m sz lf wr) (hb0 : Below w0.heap.size w0 w) (hwr : wr ≤ 4611686018427387904) (hlf : -1 ≤ lf) (hlg : lf ≤ 9223372036854775807)
    (HC : Calls Tryd.prog 52 #[.pointer (some ⟨k1, 0, none⟩), .pointer (some ⟨k2, 0, none⟩), .pointer (some ⟨k3, 0, none⟩), .pointer (some ⟨k4, 0, none⟩)] w fun r w' => r = .returned (.tuple #[]) ∧ ∃ m', P m' ∧ Wrt B w0 w' mb m m') :
    Calls Tryd.prog 36 #[.pointer (some ⟨g, 0, none⟩), .func (.func 52) #[] #[.pointer (some ⟨k1, 0, none⟩), .pointer (some ⟨k2, 0, none⟩), .pointer (some ⟨k3, 0, none⟩), .pointer (some ⟨k4, 0, none⟩)]] w fun r w' => (lf = 0 ∧ r = .returned (.int .i64 13) ∧ w' = w) ∨ (lf ≠ 0 ∧ r = .returned (.int .i64 0) ∧ ∃ m', P m' ∧ Dn B w0 w' g mb m m' sz (lfD lf) (wr + 1)) := by
  have HS := hidU (stopped_p (h.below hb0))
  have H := hidU h
  have HC := hidU HC
  clear h hb0
  by_cases hl : lf = 0
  · subst hl
    go_enter Tryd.func36, Tryd.ntmps36
    go_wp2_with (go_at_call 24; refine HS.out.mono ?_; rintro _ w1 ⟨rfl, hw⟩; obtain rfl : w = w1 := hw.symm; clear hw)
    go_ret
    exact .inl ⟨by first | rfl | trivial, rfl, rfl⟩
  · have HS2 : Hid (Calls Tryd.prog 24 #[.pointer (some ⟨g, 0, none⟩)] w fun r w' => r = .returned (.bool false) ∧ w' = w) := by
      refine hidU (HS.out.mono ?_)
      rintro r w' ⟨rfl, h⟩
      exact ⟨by rw [beq_eq_false_iff_ne.2 hl], h⟩
    clear HS
    obtain ⟨L, hL⟩ : ∃ L, Hid (L = lfD lf) := ⟨_, (rfl : _ = lfD lf)⟩
    rw [← hL.out]
    have hww : IntKind.i64.wrap ((wr : Int) + 1) = (wr : Int) + 1 := by rw [IntKind.wrap_i64]; omega
    go_enter Tryd.func36, Tryd.ntmps36
    go_wp2_with (first
      | (go_at_call 24; refine HS2.out.mono ?_; rintro _ w1 ⟨rfl, hw⟩; obtain rfl : w = w1 := hw.symm; clear hw)
      | (go_at_call 52; refine HC.out.mono ?_; rintro _ w1 ⟨rfl, m', hP, hW⟩; refine Hid.out ?_))
    refine hidU ?_
    have hA := hW.at_ H.out H.out.at_
    have HW := hidU hW
    clear hW HC HS2
    have q := hA.cell 4
    simp only [List.getElem?_cons_zero, List.getElem?_cons_succ] at q
    go_wp2_with (refine wpList_store1 rfl 3 (.tmp 15) (.tmp 13) rfl g 4 (.int .i64 ((wr : Int) + 1)) rfl rfl 35 _ hA (by simp) i3 rfl rfl ?_; intro w2 hA2 hb2 hs2; simp only [List.set] at hA2; refine Hid.out ?_)
    refine hidU ?_
    have HB2 := hidU hb2
    clear q hs2 hb2 hA
    have q := hA2.cell 3
    simp only [List.getElem?_cons_zero, List.getElem?_cons_succ] at q
    by_cases hm1 : lf = -1
    · subst hm1
      have hL2 : L = -1 := hL.out
      subst hL2
      go_wp2
      go_ret
      exact .inr ⟨hl, rfl, m', hP, HW.out.dn H.out HB2.out (by simpa using hA2)⟩
    · have hpos : 0 < lf := by omega
      have hwl : IntKind.i64.wrap (lf - 1) = lf - 1 := by rw [IntKind.wrap_i64]; omega
      have hL2 : L = lf - 1 := by rw [hL.out]; unfold lfD; rw [if_pos hpos]
      subst hL2
      have HN := hidU (show lf ≠ 0 from hl)
      clear hpos hlf hlg hL
      go_wp2_with (refine wpList_store1 rfl 3 (.tmp 27) (.tmp 25) rfl g 3 (.int .i64 (lf - 1)) rfl rfl 35 _ hA2 (by simp) i3 rfl rfl ?_; intro w3 hA3 hb3 hs3; simp only [List.set] at hA3; refine Hid.out ?_)
      refine hidU ?_
      have HB3 := hidU (HB2.out.trans hb3)
      clear q hs3 hb3 hA2
      go_wp2
      go_ret
      exact .inr ⟨HN.out, rfl, m', hP, HW.out.dn H.out HB3.out (by simpa using hA3)⟩
theorem write_54 (B g mb : Nat) (w0 w : World) (m : FMap) (sz wr : Nat) (lf : Int) (k1 k2 : Nat) (P : FMap → Prop) (h : Ds B w0 g mb m sz lf wr) (hb0 : Below w0.heap.size w0 w) (hwr : wr ≤ 4611686018427387904) (hlf : -1 ≤ lf) (hlg : lf ≤ 9223372036854775807)
    (HC : Calls Tryd.prog 54 #[.pointer (some ⟨k1, 0, none⟩), .pointer (some ⟨k2, 0, none⟩)] w fun r w' => r = .returned (.tuple #[]) ∧ ∃ m', P m' ∧ Wrt B w0 w' mb m m') :
    Calls Tryd.prog 36 #[.pointer (some ⟨g, 0, none⟩), .func (.func 54) #[] #[.pointer (some ⟨k1, 0, none⟩), .pointer (some ⟨k2, 0, none⟩)]] w fun r w' => (lf = 0 ∧ r = .returned (.int .i64 13) ∧ w' = w) ∨ (lf ≠ 0 ∧ r = .returned (.int .i64 0) ∧ ∃ m', P m' ∧ Dn B w0 w' g mb m m' sz (lfD lf) (wr + 1)) := by
  have HS := hidU (stopped_p (h.below hb0))
  have H := hidU h
  have HC := hidU HC
  clear h hb0
  by_cases hl : lf = 0
  · subst hl
    go_enter Tryd.func36, Tryd.ntmps36
    go_wp2_with (go_at_call 24; refine HS.out.mono ?_; rintro _ w1 ⟨rfl, hw⟩; obtain rfl : w = w1 := hw.symm; clear hw)
    go_ret
    exact .inl ⟨by first | rfl | trivial, rfl, rfl⟩
  · have HS2 : Hid (Calls Tryd.prog 24 #[.pointer (some ⟨g, 0, none⟩)] w fun r w' => r = .returned (.bool false) ∧ w' = w) := by
      refine hidU (HS.out.mono ?_)
      rintro r w' ⟨rfl, h⟩
      exact ⟨by rw [beq_eq_false_iff_ne.2 hl], h⟩
    clear HS
    obtain ⟨L, hL⟩ : ∃ L, Hid (L = lfD lf) := ⟨_, (rfl : _ = lfD lf)⟩
    rw [← hL.out]
    have hww : IntKind.i64.wrap ((wr : Int) + 1) = (wr : Int) + 1 := by rw [IntKind.wrap_i64]; omega
    go_enter Tryd.func36, Tryd.ntmps36
    go_wp2_with (first
      | (go_at_call 24; refine HS2.out.mono ?_; rintro _ w1 ⟨rfl, hw⟩; obtain rfl : w = w1 := hw.symm; clear hw)
      | (go_at_call 54; refine HC.out.mono ?_; rintro _ w1 ⟨rfl, m', hP, hW⟩; refine Hid.out ?_))
    refine hidU ?_
    have hA := hW.at_ H.out H.out.at_
    have HW := hidU hW
    clear hW HC HS2
    have q := hA.cell 4
    simp only [List.getElem?_cons_zero, List.getElem?_cons_succ] at q
    go_wp2_with (refine wpList_store1 rfl 3 (.tmp 15) (.tmp 13) rfl g 4 (.int .i64 ((wr : Int) + 1)) rfl rfl 35 _ hA (by simp) i3 rfl rfl ?_; intro w2 hA2 hb2 hs2; simp only [List.set] at hA2; refine Hid.out ?_)
    refine hidU ?_
    have HB2 := hidU hb2
    clear q hs2 hb2 hA
    have q := hA2.cell 3
    simp only [List.getElem?_cons_zero, List.getElem?_cons_succ] at q
    by_cases hm1 : lf = -1
    · subst hm1
      have hL2 : L = -1 := hL.out
      subst hL2
      go_wp2
      go_ret
      exact .inr ⟨hl, rfl, m', hP, HW.out.dn H.out HB2.out (by simpa using hA2)⟩
    · have hpos : 0 < lf := by omega
      have hwl : IntKind.i64.wrap (lf - 1) = lf - 1 := by rw [IntKind.wrap_i64]; omega
      have hL2 : L = lf - 1 := by rw [hL.out]; unfold lfD; rw [if_pos hpos]
      subst hL2
      have HN := hidU (show lf ≠ 0 from hl)
      clear hpos hlf hlg hL
      go_wp2_with (refine wpList_store1 rfl 3 (.tmp 27) (.tmp 25) rfl g 3 (.int .i64 (lf - 1)) rfl rfl 35 _ hA2 (by simp) i3 rfl rfl ?_; intro w3 hA3 hb3 hs3; simp only [List.set] at hA3; refine Hid.out ?_)
      refine hidU ?_
      have HB3 := hidU (HB2.out.trans hb3)
      clear q hs3 hb3 hA2
      go_wp2
      go_ret
      exact .inr ⟨HN.out, rfl, m', hP, HW.out.dn H.out HB3.out (by simpa using hA3)⟩
theorem write_56 (B g mb : Nat) (w0 w : World) (m : FMap) (sz wr : Nat) (lf : Int) (k1 k2 k3 k4 : Nat) (P : FMap → Prop) (h : Ds B w0 g mb m sz lf wr) (hb0 : Below w0.heap.size w0 w) (hwr : wr ≤ 4611686018427387904) (hlf : -1 ≤ lf) (hlg : lf ≤ 9223372036854775807)
    (HC : Calls Tryd.prog 56 #[.pointer (some ⟨k1, 0, none⟩), .pointer (some ⟨k2, 0, none⟩), .pointer (some ⟨k3, 0, none⟩), .pointer (some ⟨k4, 0, none⟩)] w fun r w' => r = .returned (.tuple #[]) ∧ ∃ m', P m' ∧ Wrt B w0 w' mb m m') :
    Calls Tryd.prog 36 #[.pointer (some ⟨g, 0, none⟩), .func (.func 56) #[] #[.pointer (some ⟨k1, 0, none⟩), .pointer (some ⟨k2, 0, none⟩), .pointer (some ⟨k3, 0, none⟩), .pointer (some ⟨k4, 0, none⟩)]] w fun r w' => (lf = 0 ∧ r = .returned (.int .i64 13) ∧ w' = w) ∨ (lf ≠ 0 ∧ r = .returned (.int .i64 0) ∧ ∃ m', P m' ∧ Dn B w0 w' g mb m m' sz (lfD lf) (wr + 1)) := by
  have HS := hidU (stopped_p (h.below hb0))
  have H := hidU h
  have HC := hidU HC
  clear h hb0
  by_cases hl : lf = 0
  · subst hl
    go_enter Tryd.func36, Tryd.ntmps36
    go_wp2_with (go_at_call 24; refine HS.out.mono ?_; rintro _ w1 ⟨rfl, hw⟩; obtain rfl : w = w1 := hw.symm; clear hw)
    go_ret
    exact .inl ⟨by first | rfl | trivial, rfl, rfl⟩
  · have HS2 : Hid (Calls Tryd.prog 24 #[.pointer (some ⟨g, 0, none⟩)] w fun r w' => r = .returned (.bool false) ∧ w' = w) := by
      refine hidU (HS.out.mono ?_)
      rintro r w' ⟨rfl, h⟩
      exact ⟨by rw [beq_eq_false_iff_ne.2 hl], h⟩
    clear HS
    obtain ⟨L, hL⟩ : ∃ L, Hid (L = lfD lf) := ⟨_, (rfl : _ = lfD lf)⟩
    rw [← hL.out]
    have hww : IntKind.i64.wrap ((wr : Int) + 1) = (wr : Int) + 1 := by rw [IntKind.wrap_i64]; omega
    go_enter Tryd.func36, Tryd.ntmps36
    go_wp2_with (first
      | (go_at_call 24; refine HS2.out.mono ?_; rintro _ w1 ⟨rfl, hw⟩; obtain rfl : w = w1 := hw.symm; clear hw)
      | (go_at_call 56; refine HC.out.mono ?_; rintro _ w1 ⟨rfl, m', hP, hW⟩; refine Hid.out ?_))
    refine hidU ?_
    have hA := hW.at_ H.out H.out.at_
    have HW := hidU hW
    clear hW HC HS2
    have q := hA.cell 4
    simp only [List.getElem?_cons_zero, List.getElem?_cons_succ] at q
    go_wp2_with (refine wpList_store1 rfl 3 (.tmp 15) (.tmp 13) rfl g 4 (.int .i64 ((wr : Int) + 1)) rfl rfl 35 _ hA (by simp) i3 rfl rfl ?_; intro w2 hA2 hb2 hs2; simp only [List.set] at hA2; refine Hid.out ?_)
    refine hidU ?_
    have HB2 := hidU hb2
    clear q hs2 hb2 hA
    have q := hA2.cell 3
    simp only [List.getElem?_cons_zero, List.getElem?_cons_succ] at q
    by_cases hm1 : lf = -1
    · subst hm1
      have hL2 : L = -1 := hL.out
      subst hL2
      go_wp2
      go_ret
      exact .inr ⟨hl, rfl, m', hP, HW.out.dn H.out HB2.out (by simpa using hA2)⟩
    · have hpos : 0 < lf := by omega
      have hwl : IntKind.i64.wrap (lf - 1) = lf - 1 := by rw [IntKind.wrap_i64]; omega
      have hL2 : L = lf - 1 := by rw [hL.out]; unfold lfD; rw [if_pos hpos]
      subst hL2
      have HN := hidU (show lf ≠ 0 from hl)
      clear hpos hlf hlg hL
      go_wp2_with (refine wpList_store1 rfl 3 (.tmp 27) (.tmp 25) rfl g 3 (.int .i64 (lf - 1)) rfl rfl 35 _ hA2 (by simp) i3 rfl rfl ?_; intro w3 hA3 hb3 hs3; simp only [List.set] at hA3; refine Hid.out ?_)
      refine hidU ?_
      have HB3 := hidU (HB2.out.trans hb3)
      clear q hs3 hb3 hA2
      go_wp2
      go_ret
      exact .inr ⟨HN.out, rfl, m', hP, HW.out.dn H.out HB3.out (by simpa using hA3)⟩
theorem write_57 (B g mb : Nat) (w0 w : World) (m : FMap) (sz wr : Nat) (lf : Int) (k1 k2 : Nat) (P : FMap → Prop) (h : Ds B w0 g mb m sz lf wr) (hb0 : Below w0.heap.size w0 w) (hwr : wr ≤ 4611686018427387904) (hlf : -1 ≤ lf) (hlg : lf ≤ 9223372036854775807)
    (HC : Calls Tryd.prog 57 #[.pointer (some ⟨k1, 0, none⟩), .pointer (some ⟨k2, 0, none⟩)] w fun r w' => r = .returned (.tuple #[]) ∧ ∃ m', P m' ∧ Wrt B w0 w' mb m m') :
    Calls Tryd.prog 36 #[.pointer (some ⟨g, 0, none⟩), .func (.func 57) #[] #[.pointer (some ⟨k1, 0, none⟩), .pointer (some ⟨k2, 0, none⟩)]] w fun r w' => (lf = 0 ∧ r = .returned (.int .i64 13) ∧ w' = w) ∨ (lf ≠ 0 ∧ r = .returned (.int .i64 0) ∧ ∃ m', P m' ∧ Dn B w0 w' g mb m m' sz (lfD lf) (wr + 1)) := by
  have HS := hidU (stopped_p (h.below hb0))
  have H := hidU h
  have HC := hidU HC
  clear h hb0
  by_cases hl : lf = 0
  · subst hl
    go_enter Tryd.func36, Tryd.ntmps36
    go_wp2_with (go_at_call 24; refine HS.out.mono ?_; rintro _ w1 ⟨rfl, hw⟩; obtain rfl : w = w1 := hw.symm; clear hw)
    go_ret
    exact .inl ⟨by first | rfl | trivial, rfl, rfl⟩
  · have HS2 : Hid (Calls Tryd.prog 24 #[.pointer (some ⟨g, 0, none⟩)] w fun r w' => r = .returned (.bool false) ∧ w' = w) := by
      refine hidU (HS.out.mono ?_)
      rintro r w' ⟨rfl, h⟩
      exact ⟨by rw [beq_eq_false_iff_ne.2 hl], h⟩
    clear HS
    obtain ⟨L, hL⟩ : ∃ L, Hid (L = lfD lf) := ⟨_, (rfl : _ = lfD lf)⟩
    rw [← hL.out]
    have hww : IntKind.i64.wrap ((wr : Int) + 1) = (wr : Int) + 1 := by rw [IntKind.wrap_i64]; omega
    go_enter Tryd.func36, Tryd.ntmps36
    go_wp2_with (first
      | (go_at_call 24; refine HS2.out.mono ?_; rintro _ w1 ⟨rfl, hw⟩; obtain rfl : w = w1 := hw.symm; clear hw)
      | (go_at_call 57; refine HC.out.mono ?_; rintro _ w1 ⟨rfl, m', hP, hW⟩; refine Hid.out ?_))
    refine hidU ?_
    have hA := hW.at_ H.out H.out.at_
    have HW := hidU hW
    clear hW HC HS2
    have q := hA.cell 4
    simp only [List.getElem?_cons_zero, List.getElem?_cons_succ] at q
    go_wp2_with (refine wpList_store1 rfl 3 (.tmp 15) (.tmp 13) rfl g 4 (.int .i64 ((wr : Int) + 1)) rfl rfl 35 _ hA (by simp) i3 rfl rfl ?_; intro w2 hA2 hb2 hs2; simp only [List.set] at hA2; refine Hid.out ?_)
    refine hidU ?_
    have HB2 := hidU hb2
    clear q hs2 hb2 hA
    have q := hA2.cell 3
    simp only [List.getElem?_cons_zero, List.getElem?_cons_succ] at q
    by_cases hm1 : lf = -1
    · subst hm1
      have hL2 : L = -1 := hL.out
      subst hL2
      go_wp2
      go_ret
      exact .inr ⟨hl, rfl, m', hP, HW.out.dn H.out HB2.out (by simpa using hA2)⟩
    · have hpos : 0 < lf := by omega
      have hwl : IntKind.i64.wrap (lf - 1) = lf - 1 := by rw [IntKind.wrap_i64]; omega
      have hL2 : L = lf - 1 := by rw [hL.out]; unfold lfD; rw [if_pos hpos]
      subst hL2
      have HN := hidU (show lf ≠ 0 from hl)
      clear hpos hlf hlg hL
      go_wp2_with (refine wpList_store1 rfl 3 (.tmp 27) (.tmp 25) rfl g 3 (.int .i64 (lf - 1)) rfl rfl 35 _ hA2 (by simp) i3 rfl rfl ?_; intro w3 hA3 hb3 hs3; simp only [List.set] at hA3; refine Hid.out ?_)
      refine hidU ?_
      have HB3 := hidU (HB2.out.trans hb3)
      clear q hs3 hb3 hA2
      go_wp2
      go_ret
      exact .inr ⟨HN.out, rfl, m', hP, HW.out.dn H.out HB3.out (by simpa using hA3)⟩
end Go.Proofs.YtcmkjjlchljffaaDoor

/- The landed disk: Sync and Remove. -/
namespace Go.Proofs.YtcmkjjlchljffaaDoor
open Go.RowKit
set_option linter.unusedVariables false
set_option maxRecDepth 100000
set_option maxHeartbeats 6400000

theorem wpList_box1 {P : Program} {ops : Array Oper} {rest : List Oper} {o : Oper} {a : Act} {w : World} {Q : Exit → Act → World → Prop} (hgd : o.guard = none) (t : TypeId) (x : Operand) (ho : o.op = .box t x) (v : Value) (hx : a.eval x = v) (hc : ∀ cs, v ≠ .agg cs)
    (h : ∀ w', At t w' w.heap.size [v] → Below w.heap.size w w' → w'.heap.size = w.heap.size + 1 → wpList P ops Q rest (a.put o.dst (.pointer (some ⟨w.heap.size, 0, none⟩))) w') :
    wpList P ops Q (o :: rest) a w := by
  refine wpList_plain hgd fun K hK => ?_
  have := hK _ _ (h (w.alloc (.cells #[v] t)) (_root_.Go.heap_alloc_new w _) ((Below.refl _ w).alloc (Nat.le_refl _) _) (by show (w.heap.push _).size = _; simp))
  unfold Oper.wp execOp
  simp only [ho, hx, Instr.box, Sem.run_bind]
  cases v <;> first | exact absurd rfl (hc _) | simpa [newVar, go_sem] using this
/-- What a write tells: whether there is power. -/
def pwE (lf : Int) : Int := if lf = 0 then 13 else 0
/-- What a call that may write tells and leaves. -/
def OpP (B : Nat) (w : World) (g mb : Nat) (m : FMap) (sz : Nat) (lf : Int) (wr : Nat) (e : Int) (P : FMap → Prop) (r : Ending) (w' : World) : Prop :=
  r = .returned (.int .i64 e) ∧ (e ≠ 0 → Below w.heap.size w w') ∧ (e = 0 → ∃ m', P m' ∧ Dn B w w' g mb m m' sz (lfD lf) (wr + 1))
theorem writ_37 (B g mb : Nat) (w0 w : World) (m : FMap) (sz wr : Nat) (lf : Int) (k1 k2 k3 : Nat) (P : FMap → Prop) (h : Ds B w0 g mb m sz lf wr) (hb0 : Below w0.heap.size w0 w) (hwr : wr ≤ 4611686018427387904) (hlf : -1 ≤ lf) (hlg : lf ≤ 9223372036854775807)
    (HC : Calls Tryd.prog 37 #[.pointer (some ⟨k1, 0, none⟩), .pointer (some ⟨k2, 0, none⟩), .pointer (some ⟨k3, 0, none⟩)] w fun r w' => r = .returned (.tuple #[]) ∧ ∃ m', P m' ∧ Wrt B w0 w' mb m m') :
    Calls Tryd.prog 36 #[.pointer (some ⟨g, 0, none⟩), .func (.func 37) #[] #[.pointer (some ⟨k1, 0, none⟩), .pointer (some ⟨k2, 0, none⟩), .pointer (some ⟨k3, 0, none⟩)]] w (OpP B w0 g mb m sz lf wr (pwE lf) P) := by
  refine (write_37 B g mb w0 w m sz wr lf k1 k2 k3 P h hb0 hwr hlf hlg HC).mono ?_
  rintro r w' (⟨h1, rfl, rfl⟩ | ⟨h1, rfl, q⟩)
  · exact ⟨by rw [pwE, if_pos h1], fun _ => hb0, fun e => by rw [pwE, if_pos h1] at e; cases e⟩
  · exact ⟨by rw [pwE, if_neg h1], fun e => absurd (by rw [pwE, if_neg h1]) e, fun _ => q⟩
theorem writ_52 (B g mb : Nat) (w0 w : World) (m : FMap) (sz wr : Nat) (lf : Int) (k1 k2 k3 k4 : Nat) (P : FMap → Prop) (h : Ds B w0 g mb m sz lf wr) (hb0 : Below w0.heap.size w0 w) (hwr : wr ≤ 4611686018427387904) (hlf : -1 ≤ lf) (hlg : lf ≤ 9223372036854775807)
    (HC : Calls Tryd.prog 52 #[.pointer (some ⟨k1, 0, none⟩), .pointer (some ⟨k2, 0, none⟩), .pointer (some ⟨k3, 0, none⟩), .pointer (some ⟨k4, 0, none⟩)] w fun r w' => r = .returned (.tuple #[]) ∧ ∃ m', P m' ∧ Wrt B w0 w' mb m m') :
    Calls Tryd.prog 36 #[.pointer (some ⟨g, 0, none⟩), .func (.func 52) #[] #[.pointer (some ⟨k1, 0, none⟩), .pointer (some ⟨k2, 0, none⟩), .pointer (some ⟨k3, 0, none⟩), .pointer (some ⟨k4, 0, none⟩)]] w (OpP B w0 g mb m sz lf wr (pwE lf) P) := by
  refine (write_52 B g mb w0 w m sz wr lf k1 k2 k3 k4 P h hb0 hwr hlf hlg HC).mono ?_
  rintro r w' (⟨h1, rfl, rfl⟩ | ⟨h1, rfl, q⟩)
  · exact ⟨by rw [pwE, if_pos h1], fun _ => hb0, fun e => by rw [pwE, if_pos h1] at e; cases e⟩
  · exact ⟨by rw [pwE, if_neg h1], fun e => absurd (by rw [pwE, if_neg h1]) e, fun _ => q⟩
theorem writ_54 (B g mb : Nat) (w0 w : World) (m : FMap) (sz wr : Nat) (lf : Int) (k1 k2 : Nat) (P : FMap → Prop) (h : Ds B w0 g mb m sz lf wr) (hb0 : Below w0.heap.size w0 w) (hwr : wr ≤ 4611686018427387904) (hlf : -1 ≤ lf) (hlg : lf ≤ 9223372036854775807)
    (HC : Calls Tryd.prog 54 #[.pointer (some ⟨k1, 0, none⟩), .pointer (some ⟨k2, 0, none⟩)] w fun r w' => r = .returned (.tuple #[]) ∧ ∃ m', P m' ∧ Wrt B w0 w' mb m m') :
    Calls Tryd.prog 36 #[.pointer (some ⟨g, 0, none⟩), .func (.func 54) #[] #[.pointer (some ⟨k1, 0, none⟩), .pointer (some ⟨k2, 0, none⟩)]] w (OpP B w0 g mb m sz lf wr (pwE lf) P) := by
  refine (write_54 B g mb w0 w m sz wr lf k1 k2 P h hb0 hwr hlf hlg HC).mono ?_
  rintro r w' (⟨h1, rfl, rfl⟩ | ⟨h1, rfl, q⟩)
  · exact ⟨by rw [pwE, if_pos h1], fun _ => hb0, fun e => by rw [pwE, if_pos h1] at e; cases e⟩
  · exact ⟨by rw [pwE, if_neg h1], fun e => absurd (by rw [pwE, if_neg h1]) e, fun _ => q⟩
theorem writ_56 (B g mb : Nat) (w0 w : World) (m : FMap) (sz wr : Nat) (lf : Int) (k1 k2 k3 k4 : Nat) (P : FMap → Prop) (h : Ds B w0 g mb m sz lf wr) (hb0 : Below w0.heap.size w0 w) (hwr : wr ≤ 4611686018427387904) (hlf : -1 ≤ lf) (hlg : lf ≤ 9223372036854775807)
    (HC : Calls Tryd.prog 56 #[.pointer (some ⟨k1, 0, none⟩), .pointer (some ⟨k2, 0, none⟩), .pointer (some ⟨k3, 0, none⟩), .pointer (some ⟨k4, 0, none⟩)] w fun r w' => r = .returned (.tuple #[]) ∧ ∃ m', P m' ∧ Wrt B w0 w' mb m m') :
    Calls Tryd.prog 36 #[.pointer (some ⟨g, 0, none⟩), .func (.func 56) #[] #[.pointer (some ⟨k1, 0, none⟩), .pointer (some ⟨k2, 0, none⟩), .pointer (some ⟨k3, 0, none⟩), .pointer (some ⟨k4, 0, none⟩)]] w (OpP B w0 g mb m sz lf wr (pwE lf) P) := by
  refine (write_56 B g mb w0 w m sz wr lf k1 k2 k3 k4 P h hb0 hwr hlf hlg HC).mono ?_
  rintro r w' (⟨h1, rfl, rfl⟩ | ⟨h1, rfl, q⟩)
  · exact ⟨by rw [pwE, if_pos h1], fun _ => hb0, fun e => by rw [pwE, if_pos h1] at e; cases e⟩
  · exact ⟨by rw [pwE, if_neg h1], fun e => absurd (by rw [pwE, if_neg h1]) e, fun _ => q⟩
theorem writ_57 (B g mb : Nat) (w0 w : World) (m : FMap) (sz wr : Nat) (lf : Int) (k1 k2 : Nat) (P : FMap → Prop) (h : Ds B w0 g mb m sz lf wr) (hb0 : Below w0.heap.size w0 w) (hwr : wr ≤ 4611686018427387904) (hlf : -1 ≤ lf) (hlg : lf ≤ 9223372036854775807)
    (HC : Calls Tryd.prog 57 #[.pointer (some ⟨k1, 0, none⟩), .pointer (some ⟨k2, 0, none⟩)] w fun r w' => r = .returned (.tuple #[]) ∧ ∃ m', P m' ∧ Wrt B w0 w' mb m m') :
    Calls Tryd.prog 36 #[.pointer (some ⟨g, 0, none⟩), .func (.func 57) #[] #[.pointer (some ⟨k1, 0, none⟩), .pointer (some ⟨k2, 0, none⟩)]] w (OpP B w0 g mb m sz lf wr (pwE lf) P) := by
  refine (write_57 B g mb w0 w m sz wr lf k1 k2 P h hb0 hwr hlf hlg HC).mono ?_
  rintro r w' (⟨h1, rfl, rfl⟩ | ⟨h1, rfl, q⟩)
  · exact ⟨by rw [pwE, if_pos h1], fun _ => hb0, fun e => by rw [pwE, if_pos h1] at e; cases e⟩
  · exact ⟨by rw [pwE, if_neg h1], fun e => absurd (by rw [pwE, if_neg h1]) e, fun _ => q⟩
theorem sync_p {B g mb : Nat} {w : World} {m : FMap} {sz wr : Nat} {lf : Int} {nm : ByteArray} (h : Ds B w g mb m sz lf wr) (hsf : ∀ p ∈ m, p.2.sf ≤ p.2.bs.length) (hsum : sumM m ≤ 67108864) (hwr : wr ≤ 4611686018427387904) (hlf : -1 ≤ lf) (hlg : lf ≤ 9223372036854775807) (hs : nm.size ≤ 9223372036854775807) :
    Calls Tryd.prog 15 #[.pointer (some ⟨g, 0, none⟩), .string nm] w (OpP B w g mb m sz lf wr (if (lookM m nm).isSome then pwE lf else 6) (fun m' => m' = updM m nm { fileM m nm with sf := (fileM m nm).bs.length, hd := true })) := by
  have H := hidU h
  obtain ⟨E, hE⟩ : ∃ E, Hid (E = if (lookM m nm).isSome then pwE lf else 6) := ⟨_, (rfl : _ = if (lookM m nm).isSome then pwE lf else 6)⟩
  rw [← hE.out]
  have HL0 := hidU (fun x (hx : Below w.heap.size w x) => lacks_p (h.below hx) hs)
  clear h
  obtain ⟨PP, hPP⟩ : ∃ PP : Ending → World → Prop, Hid (PP = OpP B w g mb m sz lf wr E (fun m' => m' = updM m nm { fileM m nm with sf := (fileM m nm).bs.length, hd := true })) := ⟨_, (rfl : _ = OpP B w g mb m sz lf wr E (fun m' => m' = updM m nm { fileM m nm with sf := (fileM m nm).bs.length, hd := true }))⟩
  rw [← hPP.out]
  go_enter Tryd.func15, Tryd.ntmps15
  go_wp2_with (first
    | (refine wpList_box1 rfl 22 (.tmp 0) rfl (.pointer (some ⟨g, 0, none⟩)) rfl (fun _ q => by cases q) ?_; intro w1 hA1 hb1 hs1; refine Hid.out ?_))
  refine hidU ?_
  obtain ⟨k1, hk1⟩ : ∃ k, k = w.heap.size := ⟨_, rfl⟩
  rw [← hk1] at hA1 ⊢
  have HB1 := hidU hb1
  clear hb1 hs1 hk1
  go_wp2_with (first
    | (refine wpList_box1 rfl 9 (.tmp 1) rfl (.string nm) rfl (fun _ q => by cases q) ?_; intro w2 hA2 hb2 hs2; refine Hid.out ?_))
  refine hidU ?_
  obtain ⟨k2, hk2⟩ : ∃ k, k = w1.heap.size := ⟨_, rfl⟩
  rw [← hk2] at hA2 ⊢
  have HB2 := hidU (HB1.out.trans (hb2.mono HB1.out.size))
  have HD := hidU (hA1.below hb2)
  have HN := hidU hA2
  have c1 : w2.cell? ⟨k1, 0, none⟩ = some (.pointer (some ⟨g, 0, none⟩)) := by rw [HD.out.cell]; rfl
  have c2 : w2.cell? ⟨k2, 0, none⟩ = some (.string nm) := by rw [HN.out.cell]; rfl
  have HL := hidU (HL0.out w2 HB2.out)
  clear hb2 hs2 hA1 hA2 HL0 HB1 hk2
  cases hl : lookM m nm with
  | none =>
    have e1 : E = 6 := by rw [hE.out, hl]; rfl
    subst e1
    rw [show lkZ m nm = 6 by unfold lkZ; rw [hl]; rfl] at HL
    clear hl
    go_wp2_with (go_at_call 49; refine HL.out.mono ?_; rintro _ w3 ⟨rfl, hb3⟩; have HB3 := hidU (HB2.out.trans (hb3.mono HB2.out.size)); clear hb3)
    rw [hPP.out]
    exact ⟨rfl, fun _ => HB3.out, fun e => by cases e⟩
  | some f =>
    have h40 : nm.size ≤ 40 := H.out.ns _ (look_mem hl)
    have e1 : E = pwE lf := by rw [hE.out, hl]; rfl
    rw [show lkZ m nm = 0 by unfold lkZ; rw [hl]; rfl] at HL
    go_wp2_with (go_at_call 49; refine HL.out.mono ?_; rintro _ w3 ⟨rfl, hb3⟩; refine Hid.out ?_)
    refine hidU ?_
    have HB3 := hidU (HB2.out.trans (hb3.mono HB2.out.size))
    have c3 : w3.cell? ⟨k1, 0, none⟩ = some (.pointer (some ⟨g, 0, none⟩)) := by rw [(HD.out.below hb3).cell]; rfl
    have HW := hidU (writ_54 B g mb w w3 m sz wr lf k1 k2 (fun m' => m' = updM m nm { fileM m nm with sf := (fileM m nm).bs.length, hd := true }) H.out HB3.out hwr hlf hlg ((sync_c B g mb w3 m sz wr lf nm k1 k2 (H.out.below HB3.out) hsf (HD.out.below hb3) (HN.out.below hb3) hsum h40).mono (by
      rintro r w' ⟨rfl, hW⟩
      exact ⟨rfl, _, rfl, hW.from HB3.out⟩)))
    rw [← e1] at HW
    rw [← hPP.out] at HW
    have hPX : ∀ r w', PP r w' → r = .returned (.int .i64 E) := fun r w' q => by rw [hPP.out] at q; exact q.1
    clear c1 c2 hb3 e1 hl
    go_wp2_with (go_at_call 36; refine HW.out.mono ?_; rintro e w4 q; obtain rfl := hPX _ _ q)
    exact q
theorem remove_p {B g mb : Nat} {w : World} {m : FMap} {sz wr : Nat} {lf : Int} {nm : ByteArray} (h : Ds B w g mb m sz lf wr) (hsf : ∀ p ∈ m, p.2.sf ≤ p.2.bs.length) (hsum : sumM m ≤ 67108864) (hwr : wr ≤ 4611686018427387904) (hlf : -1 ≤ lf) (hlg : lf ≤ 9223372036854775807) (hs : nm.size ≤ 9223372036854775807) :
    Calls Tryd.prog 17 #[.pointer (some ⟨g, 0, none⟩), .string nm] w (OpP B w g mb m sz lf wr (if (lookM m nm).isSome then pwE lf else 6) (fun m' => m' = delM m nm)) := by
  have H := hidU h
  obtain ⟨E, hE⟩ : ∃ E, Hid (E = if (lookM m nm).isSome then pwE lf else 6) := ⟨_, (rfl : _ = if (lookM m nm).isSome then pwE lf else 6)⟩
  rw [← hE.out]
  have HL0 := hidU (fun x (hx : Below w.heap.size w x) => lacks_p (h.below hx) hs)
  clear h
  obtain ⟨PP, hPP⟩ : ∃ PP : Ending → World → Prop, Hid (PP = OpP B w g mb m sz lf wr E (fun m' => m' = delM m nm)) := ⟨_, (rfl : _ = OpP B w g mb m sz lf wr E (fun m' => m' = delM m nm))⟩
  rw [← hPP.out]
  go_enter Tryd.func17, Tryd.ntmps17
  go_wp2_with (first
    | (refine wpList_box1 rfl 22 (.tmp 0) rfl (.pointer (some ⟨g, 0, none⟩)) rfl (fun _ q => by cases q) ?_; intro w1 hA1 hb1 hs1; refine Hid.out ?_))
  refine hidU ?_
  obtain ⟨k1, hk1⟩ : ∃ k, k = w.heap.size := ⟨_, rfl⟩
  rw [← hk1] at hA1 ⊢
  have HB1 := hidU hb1
  clear hb1 hs1 hk1
  go_wp2_with (first
    | (refine wpList_box1 rfl 9 (.tmp 1) rfl (.string nm) rfl (fun _ q => by cases q) ?_; intro w2 hA2 hb2 hs2; refine Hid.out ?_))
  refine hidU ?_
  obtain ⟨k2, hk2⟩ : ∃ k, k = w1.heap.size := ⟨_, rfl⟩
  rw [← hk2] at hA2 ⊢
  have HB2 := hidU (HB1.out.trans (hb2.mono HB1.out.size))
  have HD := hidU (hA1.below hb2)
  have HN := hidU hA2
  have c1 : w2.cell? ⟨k1, 0, none⟩ = some (.pointer (some ⟨g, 0, none⟩)) := by rw [HD.out.cell]; rfl
  have c2 : w2.cell? ⟨k2, 0, none⟩ = some (.string nm) := by rw [HN.out.cell]; rfl
  have HL := hidU (HL0.out w2 HB2.out)
  clear hb2 hs2 hA1 hA2 HL0 HB1 hk2
  cases hl : lookM m nm with
  | none =>
    have e1 : E = 6 := by rw [hE.out, hl]; rfl
    subst e1
    rw [show lkZ m nm = 6 by unfold lkZ; rw [hl]; rfl] at HL
    clear hl
    go_wp2_with (go_at_call 49; refine HL.out.mono ?_; rintro _ w3 ⟨rfl, hb3⟩; have HB3 := hidU (HB2.out.trans (hb3.mono HB2.out.size)); clear hb3)
    rw [hPP.out]
    exact ⟨rfl, fun _ => HB3.out, fun e => by cases e⟩
  | some f =>
    have h40 : nm.size ≤ 40 := H.out.ns _ (look_mem hl)
    have e1 : E = pwE lf := by rw [hE.out, hl]; rfl
    rw [show lkZ m nm = 0 by unfold lkZ; rw [hl]; rfl] at HL
    go_wp2_with (go_at_call 49; refine HL.out.mono ?_; rintro _ w3 ⟨rfl, hb3⟩; refine Hid.out ?_)
    refine hidU ?_
    have HB3 := hidU (HB2.out.trans (hb3.mono HB2.out.size))
    have c3 : w3.cell? ⟨k1, 0, none⟩ = some (.pointer (some ⟨g, 0, none⟩)) := by rw [(HD.out.below hb3).cell]; rfl
    have HW := hidU (writ_57 B g mb w w3 m sz wr lf k1 k2 (fun m' => m' = delM m nm) H.out HB3.out hwr hlf hlg ((remove_c B g mb w3 m sz wr lf nm k1 k2 (H.out.below HB3.out) (HD.out.below hb3) (HN.out.below hb3) (by unfold maxLen; omega)).mono (by
      rintro r w' ⟨rfl, hW⟩
      exact ⟨rfl, _, rfl, hW.from HB3.out⟩)))
    rw [← e1] at HW
    rw [← hPP.out] at HW
    have hPX : ∀ r w', PP r w' → r = .returned (.int .i64 E) := fun r w' q => by rw [hPP.out] at q; exact q.1
    clear c1 c2 hb3 e1 hl
    go_wp2_with (go_at_call 36; refine HW.out.mono ?_; rintro e w4 q; obtain rfl := hPX _ _ q)
    exact q
end Go.Proofs.YtcmkjjlchljffaaDoor

/- The landed disk: Append, Cut and Rename. -/
namespace Go.Proofs.YtcmkjjlchljffaaDoor
open Go.RowKit
set_option linter.unusedVariables false
set_option maxRecDepth 100000
set_option maxHeartbeats 6400000

theorem append_p {B g mb : Nat} {w : World} {m : FMap} {sz wr : Nat} {lf : Int} {nm : ByteArray} (h : Ds B w g mb m sz lf wr) (hsf : ∀ p ∈ m, p.2.sf ≤ p.2.bs.length) (hsum : sumM m ≤ 67108864) (hwr : wr ≤ 4611686018427387904) (hlf : -1 ≤ lf) (hlg : lf ≤ 9223372036854775807) {ba : Option Addr} {lb bc : Nat} {b : List UInt8} (hs : nm.size ≤ 9223372036854775807) (hsz : sz ≤ 67108864) (hrow : Row w ba b) (hlb : b.length = lb) (hbc : lb ≤ bc) (hnil : ba = none → bc = 0) :
    Calls Tryd.prog 10 #[.pointer (some ⟨g, 0, none⟩), .string nm, .slice ba lb bc] w (OpP B w g mb m sz lf wr (if nmOk nm = false then 2 else if roomB m nm sz lb = false then 8 else pwE lf) (fun m' => ∃ v, m' = updM m nm { fileM m nm with v := v, bs := (fileM m nm).bs ++ b })) := by
  have H := hidU h
  have HR := hidU hrow
  obtain ⟨E, hE⟩ : ∃ E, Hid (E = if nmOk nm = false then 2 else if roomB m nm sz lb = false then 8 else pwE lf) := ⟨_, (rfl : _ = if nmOk nm = false then 2 else if roomB m nm sz lb = false then 8 else pwE lf)⟩
  rw [← hE.out]
  obtain ⟨PP, hPP⟩ : ∃ PP : Ending → World → Prop, Hid (PP = OpP B w g mb m sz lf wr E (fun m' => ∃ v, m' = updM m nm { fileM m nm with v := v, bs := (fileM m nm).bs ++ b })) := ⟨_, (rfl : _ = OpP B w g mb m sz lf wr E _)⟩
  rw [← hPP.out]
  clear h hrow
  go_enter Tryd.func10, Tryd.ntmps10
  go_wp2_with (first
    | (refine wpList_box1 rfl 22 (.tmp 0) rfl (.pointer (some ⟨g, 0, none⟩)) rfl (fun _ q => by cases q) ?_; intro w1 hA1 hb1 hs1; refine Hid.out ?_))
  refine hidU ?_
  obtain ⟨k1, hk1⟩ : ∃ k, k = w.heap.size := ⟨_, rfl⟩
  rw [← hk1] at hA1 ⊢
  have HB1 := hidU (hb1)
  have HA1 := hidU hA1
  clear hb1 hs1 hA1 hk1
  go_wp2_with (first
    | (refine wpList_box1 rfl 9 (.tmp 1) rfl (.string nm) rfl (fun _ q => by cases q) ?_; intro w2 hA2 hb2 hs2; refine Hid.out ?_))
  refine hidU ?_
  obtain ⟨k2, hk2⟩ : ∃ k, k = w1.heap.size := ⟨_, rfl⟩
  rw [← hk2] at hA2 ⊢
  have HB2 := hidU (HB1.out.trans (hb2.mono HB1.out.size))
  have HA2 := hidU hA2
  have HA1 := hidU (HA1.out.below hb2)
  clear hb2 hs2 hA2 hk2
  go_wp2_with (first
    | (refine wpList_box1 rfl 29 (.tmp 2) rfl (.slice ba lb bc) rfl (fun _ q => by cases q) ?_; intro w3 hA3 hb3 hs3; refine Hid.out ?_))
  refine hidU ?_
  obtain ⟨k3, hk3⟩ : ∃ k, k = w2.heap.size := ⟨_, rfl⟩
  rw [← hk3] at hA3 ⊢
  have HB3 := hidU (HB2.out.trans (hb3.mono HB2.out.size))
  have HA3 := hidU hA3
  have HA1 := hidU (HA1.out.below hb3)
  have HA2 := hidU (HA2.out.below hb3)
  clear hb3 hs3 hA3 hk3
  have HM := hidU (made_yes (H.out.below HB3.out).at_)
  have HN := hidU (fun x => isName_any nm x hs)
  have HRm := hidU (fun x (hx : Below w.heap.size w x) => room_any (nm := nm) lb (H.out.below hx) hsum hsz hs)
  have c1 : w3.cell? ⟨k1, 0, none⟩ = some (.pointer (some ⟨g, 0, none⟩)) := by rw [HA1.out.cell]; rfl
  have c2 : w3.cell? ⟨k2, 0, none⟩ = some (.string nm) := by rw [HA2.out.cell]; rfl
  clear HB1 HB2
  cases hq : nmOk nm with
  | false =>
    have e1 : E = 2 := by rw [hE.out, hq]; rfl
    subst e1
    rw [hq] at HN
    clear hq
    go_wp2_with (first
      | (go_at_call 33; refine HM.out.mono ?_; rintro _ x ⟨rfl, hw⟩; obtain rfl : w3 = x := hw.symm; clear hw)
      | (go_at_call 34; refine (HN.out _).mono ?_; rintro _ x4 ⟨rfl, hb4⟩; have HB4 := hidU (HB3.out.trans (hb4.mono HB3.out.size)); clear hb4))
    rw [hPP.out]
    exact ⟨rfl, fun _ => HB4.out, fun e => by cases e⟩
  | true =>
    have h40 : nm.size ≤ 40 := by
      unfold nmOk at hq
      simp at hq
      exact hq.2.2
    rw [hq] at HN
    go_wp2_with (first
      | (go_at_call 33; refine HM.out.mono ?_; rintro _ x ⟨rfl, hw⟩; obtain rfl : w3 = x := hw.symm; clear hw)
      | (go_at_call 34; refine (HN.out _).mono ?_; rintro _ w4 ⟨rfl, hb4⟩; refine Hid.out ?_))
    refine hidU ?_
    have HB4 := hidU (HB3.out.trans (hb4.mono HB3.out.size))
    have HA1 := hidU (HA1.out.below hb4)
    have HA2 := hidU (HA2.out.below hb4)
    have HA3 := hidU (HA3.out.below hb4)
    have HRm := hidU (HRm.out _ HB4.out)
    clear hb4 c1 c2 HM HN
    have c1 : w4.cell? ⟨k1, 0, none⟩ = some (.pointer (some ⟨g, 0, none⟩)) := by rw [HA1.out.cell]; rfl
    have c2 : w4.cell? ⟨k2, 0, none⟩ = some (.string nm) := by rw [HA2.out.cell]; rfl
    have c3 : w4.cell? ⟨k3, 0, none⟩ = some (.slice ba lb bc) := by rw [HA3.out.cell]; rfl
    cases hr : roomB m nm sz lb with
    | false =>
      have e1 : E = 8 := by rw [hE.out, hq, hr]; rfl
      subst e1
      rw [hr] at HRm
      clear hq hr
      go_wp2_with (go_at_call 35; refine HRm.out.mono ?_; rintro _ w5 ⟨rfl, hb5⟩; have HB5 := hidU (HB4.out.trans (hb5.mono HB4.out.size)); clear hb5)
      rw [hPP.out]
      exact ⟨rfl, fun _ => HB5.out, fun e => by cases e⟩
    | true =>
      have e1 : E = pwE lf := by rw [hE.out, hq, hr]; rfl
      have hroom : sumM m + lb ≤ 67108864 := by
        unfold roomB at hr
        rw [Bool.and_eq_true, decide_eq_true_eq] at hr
        omega
      rw [hr] at HRm
      go_wp2_with (go_at_call 35; refine HRm.out.mono ?_; rintro _ w5 ⟨rfl, hb5⟩; refine Hid.out ?_)
      refine hidU ?_
      have HB5 := hidU (HB4.out.trans (hb5.mono HB4.out.size))
      have d1 : w5.cell? ⟨k1, 0, none⟩ = some (.pointer (some ⟨g, 0, none⟩)) := by rw [(HA1.out.below hb5).cell]; rfl
      have HW := hidU (writ_37 B g mb w w5 m sz wr lf k1 k2 k3 (fun m' => ∃ v, m' = updM m nm { fileM m nm with v := v, bs := (fileM m nm).bs ++ b }) H.out HB5.out hwr hlf hlg ((append_c B g mb w5 m sz wr lf nm k1 k2 k3 ba lb bc b (H.out.below HB5.out) hsf (Nat.le_trans H.out.bg (Nat.le_of_lt (heapLt (H.out.below HB5.out).at_))) (HA1.out.below hb5) (HA2.out.below hb5) (HA3.out.below hb5) (HR.out.below HB5.out) hlb hbc hnil hroom h40).mono (by
        rintro r w' ⟨rfl, v, hW⟩
        exact ⟨rfl, _, ⟨v, rfl⟩, hW.from HB5.out⟩)))
      rw [← e1] at HW
      rw [← hPP.out] at HW
      have hPX : ∀ r w', PP r w' → r = .returned (.int .i64 E) := fun r w' q => by rw [hPP.out] at q; exact q.1
      clear c1 c2 c3 hb5 e1 hq hr
      go_wp2_with (go_at_call 36; refine HW.out.mono ?_; rintro e w6 q; obtain rfl := hPX _ _ q)
      exact q
end Go.Proofs.YtcmkjjlchljffaaDoor
