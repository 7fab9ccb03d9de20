/- An operator works on the stack. -/
import Derived.Test.YtefklmckkigllaaJ5
namespace Go.Proofs.Ytefklmckkigllaa
open Go.RowKit
set_option linter.unusedVariables false

/-- What an operator does to the types, and whether it may. -/
def operT (op : Nat) (S : List Nat) : List Nat × Bool :=
  if S.length < opersOf op then (S, false)
  else (S.take (S.length - opersOf op) ++ [makesOf op (S.getD (S.length - opersOf op) 0)],
    decide (S.getD (S.length - opersOf op) 0 = S.getD (S.length - 1) 0) && decide (makesOf op (S.getD (S.length - opersOf op) 0) ≠ 0))

theorem i97s (w : World) : (sizeOf 32).run Try.prog w = .ok 1 w := by kernel_rfl
theorem run_slice97 (w : World) (a : Option Addr) (len cap h : Nat) (x : Int) (hx : x = (h : Int)) (hh : h ≤ cap) :
    (Instr.slice 97 (.slice a len cap) none (some (.int .i64 x)) none).run Try.prog w = .ok (.slice a h cap) w := by
  have he : Try.prog.elem 97 = 32 := by simp [Program.elem, Try.underlying97]
  rw [run_slice_h w 97 a len cap (by rw [he]; exact Try.underlying97) .i64 x (by omega) (by omega), he, i97s]
  have hz : ∀ p : Addr, p.add 0 = p := fun p => by cases p; simp [Addr.add]
  have hm : a.map (fun p => p.add 0) = a := by cases a <;> simp [hz]
  simp only [Result.andThen, sliced, Nat.zero_mul, hm, Nat.sub_zero]
  rw [show x.toNat = h by omega]
  simp
theorem own_take {A n m : Nat} {w : World} {b cap : Nat} {S : List Nat} (h : w.ownsRow A 32 1 (.slice (some ⟨b, 0, none⟩) n cap) S.length (S.map tyC)) (hm : m ≤ S.length) : w.ownsRow A 32 1 (.slice (some ⟨b, 0, none⟩) m cap) (S.take m).length ((S.take m).map tyC) := by
  obtain ⟨h1, ⟨h2, _⟩ | ⟨b', cap', cur, hv, hb, hcur, h3, h4, h5, h6⟩⟩ := h
  · cases h2
  · cases hv
    have hl : (S.take m).length = m := by rw [List.length_take]; omega
    refine ⟨by simp, .inr ⟨b, cap, cur, by rw [hl], hb, hcur, by omega, h4, h5, ?_⟩⟩
    rw [hl, Nat.mul_one, List.map_take, ← h6, List.take_take]
    congr 1
    omega
theorem own_cell {A n : Nat} {w : World} {b cap : Nat} {S : List Nat} (h : w.ownsRow A 32 1 (.slice (some ⟨b, 0, none⟩) n cap) S.length (S.map tyC)) (i : Nat) (hi : i < S.length) : w.cell? ⟨b, i, none⟩ = some (.int .u8 (S.getD i 0 : Int)) := by
  obtain ⟨h1, ⟨h2, _⟩ | ⟨b', cap', cur, hv, hb, hcur, h3, h4, h5, h6⟩⟩ := h
  · cases h2
  · cases hv
    have e : (cur.toList.take (S.length * 1))[i]? = some (tyC (S.getD i 0)) := by
      rw [h6, List.getElem?_map]
      simp [List.getD, List.getElem?_eq_getElem hi]
    rw [List.getElem?_take_of_lt (by omega)] at e
    simp only [World.cell?, hcur]
    simpa [tyC] using e

set_option maxRecDepth 100000 in
set_option maxHeartbeats 6400000 in
theorem operate_any (A g : Nat) (pre : List Value) (hp : pre.length = 6) (v : Value) (S : List Nat) (hS3 : ∀ t ∈ S, t ≤ 3) (op : Nat) (ho3 : 3 ≤ op) (ho : op < 20) (w : World) (hT : Ty A w g pre v S) (hlen : S.length ≤ 1048576) (hAw : A ≤ w.heap.size) :
    Calls Try.prog 86 #[.pointer (some ⟨g, 0, none⟩), .agg (opC op).toArray] w fun e w' => ∃ v', e = .returned (.bool (operT op S).2) ∧ Ty A w' g pre v' (operT op S).1 ∧ Fw A g w w' := by
  have hk : opersOf op = 1 ∨ opersOf op = 2 := by
    unfold opersOf
    split
    · exact .inr rfl
    · split
      · exact .inl rfl
      · omega
  have hgw : w.heap.size ≠ g := by have := hT.lt; omega
  unfold operT
  obtain ⟨k, hke⟩ : ∃ k, k = opersOf op := ⟨_, rfl⟩
  rw [← hke] at hk ⊢
  have hopC : opC op = [.int .i64 (k : Int), tyC (makesOf op 0), tyC (makesOf op 1), tyC (makesOf op 2), tyC (makesOf op 3)] := by rw [hke]; rfl
  have hMt : ∀ f, f ≤ 3 → (opC op)[1 + f]? = some (.int .u8 (makesOf op f : Int)) := fun f hf => by
    rw [hopC]
    match f, hf with
    | 0, _ => rfl
    | 1, _ => rfl
    | 2, _ => rfl
    | 3, _ => rfl
  obtain ⟨n, hn⟩ : ∃ n, Hid (n = S.length) := ⟨_, (rfl : S.length = _)⟩
  obtain ⟨a0, c0, rfl⟩ : ∃ a c, v = .slice a n c := by rw [hn.out]; exact own_len hT.own
  have hbox : (opC op).length = 5 := rfl
  have hc0 : (opC op)[0]? = some (.int .i64 (k : Int)) := by rw [hopC]; rfl
  generalize opC op = oc at *
  clear hopC
  by_cases hs : S.length < k
  · rw [if_pos hs]
    have hn2 : (n : Int) - (k : Int) < 0 := by rw [hn.out]; omega
    have hW : IntKind.i64.wrap ((n : Int) - (k : Int)) = (n : Int) - (k : Int) := by rw [IntKind.wrap_i64]; rw [hn.out]; omega
    have HT : Hid (Ty A w g pre (.slice a0 n c0) S) := hT
    clear hT hs hMt hke
    go_enter Try.func86, Try.ntmps86
    go_wp2_with (first
      | ((with_reducible show wpList _ _ _ _ _ _); refine wpList_box_at rfl 94 (.tmp 1) rfl oc rfl ?_; intro w1 hA1 hb1 hs1; clear hs1; refine Hid.out ?_))
    refine hidU ?_
    have q0 : w1.cell? ⟨w.heap.size, 0, none⟩ = some (.int .i64 (k : Int)) := by rw [hA1.cell]; exact hc0
    have q1 : w1.cell? ⟨g, 106, none⟩ = some (.slice a0 n c0) := (HT.out.below hb1).head hp
    clear hA1
    go_wp2_with fail
    go_quiet (fail)
    go_wp2
    go_ret
    exact ⟨_, rfl, (HT.out.below hb1).below (below_drewN _ _), (Fw.of_below hb1).trans (Fw.of_below (below_drewN _ _))⟩
  · rw [if_neg hs]
    obtain ⟨m, hm⟩ : ∃ m, Hid (m = S.length - k) := ⟨_, (rfl : S.length - k = _)⟩
    obtain ⟨p, hpp⟩ : ∃ p, Hid (p = S.length - 1) := ⟨_, (rfl : S.length - 1 = _)⟩
    rw [← hm.out, ← hpp.out]
    have hmn : m < n := by rw [hn.out, hm.out]; omega
    have hpn : p < n := by rw [hn.out, hpp.out]; omega
    have hW1 : IntKind.i64.wrap ((n : Int) - (k : Int)) = (m : Int) := by rw [IntKind.wrap_i64]; rw [hn.out, hm.out]; omega
    have hW2 : IntKind.i64.wrap ((n : Int) - 1) = (p : Int) := by rw [IntKind.wrap_i64]; rw [hn.out, hpp.out]; omega
    obtain ⟨cap, hcp⟩ : ∃ cap, cap = c0 := ⟨_, rfl⟩
    subst hcp
    obtain ⟨b, rfl⟩ : ∃ b, a0 = some ⟨b, 0, none⟩ := by
      obtain ⟨_, ⟨h2, h3⟩ | ⟨b', cap', cur, hv, _⟩⟩ := hT.own
      · rw [← hn.out] at h3; omega
      · cases hv; exact ⟨_, rfl⟩
    have hcap : n ≤ cap := by
      obtain ⟨_, ⟨h2, h3⟩ | ⟨b', cap', cur, hv, _, _, h3, _⟩⟩ := hT.own
      · cases h2
      · cases hv; rw [hn.out]; exact h3
    obtain ⟨f, hf⟩ : ∃ f, Hid (f = S.getD m 0) := ⟨_, (rfl : S.getD m 0 = _)⟩
    obtain ⟨l, hl⟩ : ∃ l, Hid (l = S.getD p 0) := ⟨_, (rfl : S.getD p 0 = _)⟩
    rw [← hf.out, ← hl.out]
    have hf3 : f ≤ 3 := by
      rw [hf.out, List.getD, List.getElem?_eq_getElem (by rw [← hn.out]; exact hmn)]
      exact hS3 _ (List.getElem_mem _)
    have hMc0 := hMt f hf3
    obtain ⟨M, hM⟩ : ∃ M, Hid (M = makesOf op f) := ⟨_, (rfl : makesOf op f = _)⟩
    rw [← hM.out] at hMc0 ⊢
    have hMc : oc[1 + f]? = some (.int .u8 (M : Int)) := hMc0
    have hM3 : M ≤ 3 := by rw [hM.out]; exact makes_lt _ _
    have hMne : decide (M ≠ 0) = ((M : Int) != 0) := by rw [Bool.eq_iff_iff, bne_iff_ne, decide_eq_true_iff]; omega
    have hmS : m ≤ S.length := by rw [← hn.out]; omega
    have htk : (S.take m).length = m := by rw [List.length_take]; omega
    have hlen2 : (S.take m).length ≤ 1048576 := by rw [htk]; omega
    have HT : Hid (Ty A w g pre (.slice (some ⟨b, 0, none⟩) n cap) S) := hT
    have hcm : ∀ u, Ty A u g pre (.slice (some ⟨b, 0, none⟩) n cap) S → u.cell? ⟨b, m, none⟩ = some (.int .u8 (f : Int)) ∧ u.cell? ⟨b, p, none⟩ = some (.int .u8 (l : Int)) := fun u hu => by
      rw [hf.out, hl.out]
      exact ⟨own_cell hu.own m (by rw [← hn.out]; exact hmn), own_cell hu.own p (by rw [← hn.out]; exact hpn)⟩
    have HC : Hid _ := hcm
    have hlast : (pre ++ opsC ++ [Value.slice (some ⟨b, 0, none⟩) n cap])[106]? = some (.slice (some ⟨b, 0, none⟩) n cap) := by
      rw [List.getElem?_append_right (by rw [List.length_append, hp, opsC_len]; omega), List.length_append, hp, opsC_len]
      rfl
    have hmc : m ≤ cap := by omega
    clear hT hs hMt hke hcm hf hl hM hMc0 hS3
    have hSl := fun u => run_slice97 u (some ⟨b, 0, none⟩) n cap m (m : Int) rfl hmc
    by_cases hfl : f = l
    · skip
      have HFL : Hid (f = l) := hfl
      have hf4 : ¬ (4 : Int) ≤ (f : Int) := by omega
      clear hfl
      go_enter Try.func86, Try.ntmps86
      go_wp2_with (first
        | ((with_reducible show wpList _ _ _ _ _ _); refine wpList_box_at rfl 94 (.tmp 1) rfl oc rfl ?_; intro w1 hA1 hb1 hs1; clear hs1; refine Hid.out ?_))
      refine hidU ?_
      have q0 : w1.cell? ⟨w.heap.size, 0, none⟩ = some (.int .i64 (k : Int)) := by rw [hA1.cell]; exact hc0
      have hT1 := HT.out.below hb1
      have q1 : w1.cell? ⟨g, 106, none⟩ = some (.slice (some ⟨b, 0, none⟩) n cap) := hT1.head hp
      go_wp2_with fail
      go_quiet (fail)
      obtain ⟨wz, hwz⟩ : ∃ x, x = w1.drewN nq := ⟨_, rfl⟩
      rw [← hwz]
      have hbz : Below w.heap.size w wz := by rw [hwz]; exact hb1.trans ((below_drewN _ _).mono hb1.size)
      have hTz : Ty A wz g pre (.slice (some ⟨b, 0, none⟩) n cap) S := by rw [hwz]; exact hT1.below (below_drewN _ _)
      have hAz : At 94 wz w.heap.size oc := by rw [hwz]; exact hA1.below (below_drewN _ _)
      clear hwz q0 q1 hT1 hA1 hb1
      have q1 : wz.cell? ⟨g, 106, none⟩ = some (.slice (some ⟨b, 0, none⟩) n cap) := hTz.head hp
      obtain ⟨cm, cp⟩ := HC.out wz hTz
      clear HC
      go_wp2_with fail
      go_quiet (fail)
      obtain ⟨wq, hwq⟩ : ∃ x, x = wz.drewN nq := ⟨_, rfl⟩
      rw [← hwq]
      have hbq : Below w.heap.size w wq := by rw [hwq]; exact hbz.trans ((below_drewN _ _).mono hbz.size)
      have hTq : Ty A wq g pre (.slice (some ⟨b, 0, none⟩) n cap) S := by rw [hwq]; exact hTz.below (below_drewN _ _)
      have hAq : At 94 wq w.heap.size oc := by rw [hwq]; exact hAz.below (below_drewN _ _)
      clear hwq q1 cm cp hTz hAz hbz
      go_wp2_with fail
      have f0 : wq.drew.cell? ⟨w.heap.size, 1 + f, none⟩ = some (.int .u8 (M : Int)) := by show wq.cell? _ = _; rw [hAq.cell]; exact hMc
      refine wp_region_held_drew (S := fun x => x.cell? ⟨w.heap.size, 1 + f, none⟩ = some (.int .u8 (M : Int))) (by kernel_rfl) f0 (fun _ => ?_)
      refine wpAnyH_take (i := 0) (oi := { dst := some 37, op := .move (.tmp 0), type := _, pos := _, after := _, guard := none }) (v := .pointer (some ⟨g, 0, none⟩)) rfl (by kernel_rfl) (by kernel_rfl) (by kernel_rfl) (fun _ _ _ h => h) (Or.inl ⟨by rfl, ?_⟩) f0 ?_
      · intro w hSw
        go_simp
      simp only [Act.put, List.setIfInBounds_toArray, List.set_cons_zero, List.set_cons_succ]
      refine wpAnyH_take (i := 1) (oi := { dst := some 38, op := .move (.tmp 0), type := _, pos := _, after := _, guard := none }) (v := .pointer (some ⟨g, 0, none⟩)) rfl (by kernel_rfl) (by kernel_rfl) (by kernel_rfl) (fun _ _ _ h => h) (Or.inl ⟨by rfl, ?_⟩) f0 ?_
      · intro w hSw
        go_simp
      simp only [Act.put, List.setIfInBounds_toArray, List.set_cons_zero, List.set_cons_succ]
      refine wpAnyH_take (i := 2) (oi := { dst := some 39, op := .nilCheck (.tmp 38), type := _, pos := _, after := _, guard := none }) (v := .pointer (some ⟨g, 0, none⟩)) rfl (by kernel_rfl) (by kernel_rfl) (by kernel_rfl) (fun _ _ _ h => h) (Or.inl ⟨by rfl, ?_⟩) f0 ?_
      · intro w hSw
        go_simp
      simp only [Act.put, List.setIfInBounds_toArray, List.set_cons_zero, List.set_cons_succ]
      refine wpAnyH_take (i := 3) (oi := { dst := some 40, op := .fieldAddr 99 (.tmp 39) 2, type := _, pos := _, after := _, guard := none }) (v := .pointer (some ⟨g, 106, none⟩)) rfl (by kernel_rfl) (by kernel_rfl) (by kernel_rfl) (fun _ _ _ h => h) (Or.inl ⟨by rfl, ?_⟩) f0 ?_
      · intro w hSw
        go_simp
      simp only [Act.put, List.setIfInBounds_toArray, List.set_cons_zero, List.set_cons_succ]
      refine wpAnyH_take (i := 5) (oi := { dst := some 42, op := .move (.tmp 5), type := _, pos := _, after := _, guard := none }) (v := .int .i64 (m : Int)) rfl (by kernel_rfl) (by kernel_rfl) (by kernel_rfl) (fun _ _ _ h => h) (Or.inl ⟨by rfl, ?_⟩) f0 ?_
      · intro w hSw
        go_simp
      simp only [Act.put, List.setIfInBounds_toArray, List.set_cons_zero, List.set_cons_succ]
      refine wpAnyH_take (i := 7) (oi := { dst := some 44, op := .move (.tmp 6), type := _, pos := _, after := _, guard := none }) (v := .int .u8 (f : Int)) rfl (by kernel_rfl) (by kernel_rfl) (by kernel_rfl) (fun _ _ _ h => h) (Or.inl ⟨by rfl, ?_⟩) f0 ?_
      · intro w hSw
        go_simp
      simp only [Act.put, List.setIfInBounds_toArray, List.set_cons_zero, List.set_cons_succ]
      refine wpAnyH_take (i := 8) (oi := { dst := some 45, op := .fieldAddr 94 (.tmp 3) 1, type := _, pos := _, after := _, guard := none }) (v := .pointer (some ⟨w.heap.size, 1, none⟩)) rfl (by kernel_rfl) (by kernel_rfl) (by kernel_rfl) (fun _ _ _ h => h) (Or.inl ⟨by rfl, ?_⟩) f0 ?_
      · intro w hSw
        go_simp
      simp only [Act.put, List.setIfInBounds_toArray, List.set_cons_zero, List.set_cons_succ]
      refine wpAnyH_take (i := 9) (oi := { dst := some 46, op := .indexAddr 92 (.tmp 45) (.tmp 44), type := _, pos := _, after := _, guard := none }) (v := .pointer (some ⟨w.heap.size, 1 + f, none⟩)) rfl (by kernel_rfl) (by kernel_rfl) (by kernel_rfl) (fun _ _ _ h => h) (Or.inl ⟨by rfl, ?_⟩) f0 ?_
      · intro w hSw
        go_simp
      simp only [Act.put, List.setIfInBounds_toArray, List.set_cons_zero, List.set_cons_succ]
      refine wpAnyH_take (i := 10) (oi := { dst := some 47, op := .load 32 (.tmp 46), type := _, pos := _, after := _, guard := none }) (v := .int .u8 (M : Int)) rfl (by kernel_rfl) (by kernel_rfl) (by kernel_rfl) (fun _ _ _ h => h) (Or.inl ⟨by rfl, ?_⟩) f0 ?_
      · intro w hSw
        go_simp
      simp only [Act.put, List.setIfInBounds_toArray, List.set_cons_zero, List.set_cons_succ]
      refine wpAnyH_ready (rs := [4, 11]) (by kernel_rfl) (by simp) ?_
      refine AllReadyH.cons (o := { dst := some 41, op := .load 97 (.tmp 40), type := _, pos := _, after := _, guard := none }) rfl (fun K hK => ?_) (AllReadyH.cons (o := { dst := some 48, op := .buildSlice 97 1 #[(0, .tmp 47)], type := _, pos := _, after := _, guard := none }) rfl (fun K hK => ?_) AllReadyH.nil)
      · skip
        rw [if_pos (by rfl)]
        have k0 : wq.drew.cell? ⟨g, 106, none⟩ = some (.slice (some ⟨b, 0, none⟩) n cap) := (show Ty A wq.drew g pre _ S from hTq.below (Below.drew (Below.refl _ _))).head hp
        go_simp
        refine hK.out _ _ f0 (fun _ => ?_)
        clear hK K
        try simp only [Act.put, List.setIfInBounds_toArray, List.set_cons_zero, List.set_cons_succ]
        refine wpAnyH_take (i := 6) (oi := { dst := some 43, op := .slice 97 (.tmp 41) none (some (.tmp 42)) none, type := _, pos := _, after := _, guard := none }) (v := .slice (some ⟨b, 0, none⟩) m cap) rfl (by kernel_rfl) (by kernel_rfl) (by kernel_rfl) (fun _ _ _ h => h) (Or.inl ⟨by rfl, ?_⟩) f0 ?_
        · intro w hSw
          go_simp
        simp only [Act.put, List.setIfInBounds_toArray, List.set_cons_zero, List.set_cons_succ]
        refine wpAnyH_ready (rs := [11]) (by kernel_rfl) (by simp) ?_
        refine AllReadyH.cons (o := { dst := some 48, op := .buildSlice 97 1 #[(0, .tmp 47)], type := _, pos := _, after := _, guard := none }) rfl (fun K hK => ?_) AllReadyH.nil
        rw [if_pos (by rfl)]
        go_simp
        obtain ⟨wa, hwa⟩ : ∃ x, x = (wq.alloc (.cells #[.int .u8 (M : Int)] 32)).drew := ⟨_, rfl⟩
        have hbA : Below wq.heap.size wq wa := by rw [hwa]; exact Below.drew ((Below.refl _ _).alloc (Nat.le_refl _) _)
        have hnew : wa.cell? ⟨wq.heap.size, 0, none⟩ = some (tyC M) := by rw [hwa]; show (wq.alloc (.cells #[.int .u8 (M : Int)] 32)).cell? _ = _; rw [World.cell?_alloc_at _ _ _ _ rfl]; rfl
        have hTa := hTq.below hbA
        have hTo := own_take hTa.own hmS
        have hBa := hAq.below hbA
        have hFa : Fw A g w wa := (Fw.of_below hbq).trans (Fw.of_below hbA)
        have hAa : A ≤ wa.heap.size := by have := hbA.size; have := hbq.size; omega
        have fa : wa.cell? ⟨w.heap.size, 1 + f, none⟩ = some (.int .u8 (M : Int)) := by rw [hBa.cell]; exact hMc
        rw [← hwa]
        clear hwa
        refine hK.out _ _ fa (fun _ => ?_)
        clear hK K
        try simp only [Act.put, List.setIfInBounds_toArray, List.set_cons_zero, List.set_cons_succ]
        refine wpAnyH_ready (rs := [12]) (by kernel_rfl) (by simp) ?_
        refine AllReadyH.cons (o := { dst := some 49, op := .call { callee := .builtin .append, args := #[.tmp 43, .tmp 48], argTypes := #[97, 97] }, type := _, pos := _, after := _, guard := none }) rfl (fun K hK => ?_) AllReadyH.nil
        refine step_app32 (.tmp 43) (.tmp 48) A _ (S.take m) M wq.heap.size rfl rfl rfl rfl hTo hnew hlen2 hAa ?_
        intro v' w5 hown5 hgr5
        have hF5 : Fw A g wa w5 := Fw.grown hTo hgr5
        have hA5 : At 99 w5 g (pre ++ opsC ++ [.slice (some ⟨b, 0, none⟩) n cap]) := by
          unfold At
          rw [hgr5.block g hTa.lt (fun e => hTa.ne e.symm)]
          exact hTa.cell
        have f5 : w5.cell? ⟨w.heap.size, 1 + f, none⟩ = some (.int .u8 (M : Int)) := by rw [(hF5.at hBa hgw (by decide)).cell]; exact hMc
        refine hK.out _ _ f5 (fun _ => ?_)
        clear hK K
        refine wpAnyH_take (i := 13) (oi := { dst := some 50, op := .nilCheck (.tmp 37), type := _, pos := _, after := _, guard := none }) (v := .pointer (some ⟨g, 0, none⟩)) rfl (by kernel_rfl) (by kernel_rfl) (by kernel_rfl) (fun _ _ _ h => h) (Or.inl ⟨by rfl, ?_⟩) f5 ?_
        · intro w hSw
          go_simp
        simp only [Act.put, List.setIfInBounds_toArray, List.set_cons_zero, List.set_cons_succ]
        refine wpAnyH_take (i := 14) (oi := { dst := some 51, op := .fieldAddr 99 (.tmp 50) 2, type := _, pos := _, after := _, guard := none }) (v := .pointer (some ⟨g, 106, none⟩)) rfl (by kernel_rfl) (by kernel_rfl) (by kernel_rfl) (fun _ _ _ h => h) (Or.inl ⟨by rfl, ?_⟩) f5 ?_
        · intro w hSw
          go_simp
        simp only [Act.put, List.setIfInBounds_toArray, List.set_cons_zero, List.set_cons_succ]
        refine wpAnyH_ready (rs := [15]) (by kernel_rfl) (by simp) ?_
        refine AllReadyH.cons (o := { dst := none, op := .store 97 (.tmp 51) (.tmp 49), type := _, pos := _, after := _, guard := none }) rfl (fun K hK => ?_) AllReadyH.nil
        obtain ⟨va, vc, rfl⟩ : ∃ a c, v' = .slice a (m + 1) c := own_len (n := m + 1) (by rwa [List.length_append, htk] at hown5)
        have k1 : w5.cell? ⟨g, 106, none⟩ = some (.slice (some ⟨b, 0, none⟩) n cap) := by rw [hA5.cell]; exact hlast
        have k2 : w5.frozen? ⟨g, 106, none⟩ = false := hA5.frozen 106
        have hT6 := HT.out.put hp hA5 hown5
        have hB6 : But g w5 (w5.setCell ⟨g, 106, none⟩ (.slice va (m + 1) vc)) := (But.refl g w5).setCell 106 (.slice va (m + 1) vc)
        have f6 : (w5.setCell ⟨g, 106, none⟩ (.slice va (m + 1) vc)).cell? ⟨w.heap.size, 1 + f, none⟩ = some (.int .u8 (M : Int)) := by rw [(hB6.at (hF5.at hBa hgw (by decide)) hgw).cell]; exact hMc
        go_simp
        refine hK.out _ _ f6 (fun _ => ?_)
        clear hK K
        refine wpAnyH_done (by kernel_rfl) ?_ _
        have hF6 : Fw A g w (w5.setCell ⟨g, 106, none⟩ (.slice va (m + 1) vc)) := (hFa.trans hF5).trans (Fw.of_but hB6)
        obtain ⟨w6, hw6⟩ : ∃ x, x = w5.setCell ⟨g, 106, none⟩ (.slice va (m + 1) vc) := ⟨_, rfl⟩
        rw [← hw6] at hT6 hF6 f6 ⊢
        have HT6 : Hid (Ty A w6 g pre (.slice va (m + 1) vc) (S.take m ++ [M])) := hT6
        have HF6 : Hid (Fw A g w w6) := hF6
        clear hw6 k1 k2 f5 hB6 hA5 hF5 hgr5 hown5 hT6 hF6 hTa hTo hBa hFa hnew hlast hMc hbA
        have hfl' : ((f : Int) == (l : Int)) = true := by rw [beq_iff_eq]; have := HFL.out; omega
        go_wp2
        go_ret
        exact ⟨_, by rw [decide_eq_true HFL.out, Bool.true_and, hMne]; rfl, HT6.out, HF6.out⟩
      · skip
        rw [if_pos (by rfl)]
        go_simp
        obtain ⟨wa, hwa⟩ : ∃ x, x = (wq.alloc (.cells #[.int .u8 (M : Int)] 32)).drew := ⟨_, rfl⟩
        have hbA : Below wq.heap.size wq wa := by rw [hwa]; exact Below.drew ((Below.refl _ _).alloc (Nat.le_refl _) _)
        have hnew : wa.cell? ⟨wq.heap.size, 0, none⟩ = some (tyC M) := by rw [hwa]; show (wq.alloc (.cells #[.int .u8 (M : Int)] 32)).cell? _ = _; rw [World.cell?_alloc_at _ _ _ _ rfl]; rfl
        have hTa := hTq.below hbA
        have hTo := own_take hTa.own hmS
        have hBa := hAq.below hbA
        have hFa : Fw A g w wa := (Fw.of_below hbq).trans (Fw.of_below hbA)
        have hAa : A ≤ wa.heap.size := by have := hbA.size; have := hbq.size; omega
        have fa : wa.cell? ⟨w.heap.size, 1 + f, none⟩ = some (.int .u8 (M : Int)) := by rw [hBa.cell]; exact hMc
        rw [← hwa]
        clear hwa
        refine hK.out _ _ fa (fun _ => ?_)
        clear hK K
        try simp only [Act.put, List.setIfInBounds_toArray, List.set_cons_zero, List.set_cons_succ]
        refine wpAnyH_ready (rs := [4]) (by kernel_rfl) (by simp) ?_
        refine AllReadyH.cons (o := { dst := some 41, op := .load 97 (.tmp 40), type := _, pos := _, after := _, guard := none }) rfl (fun K hK => ?_) AllReadyH.nil
        rw [if_pos (by rfl)]
        have k0 : wa.cell? ⟨g, 106, none⟩ = some (.slice (some ⟨b, 0, none⟩) n cap) := hTa.head hp
        go_simp
        refine hK.out _ _ fa (fun _ => ?_)
        clear hK K
        try simp only [Act.put, List.setIfInBounds_toArray, List.set_cons_zero, List.set_cons_succ]
        refine wpAnyH_take (i := 6) (oi := { dst := some 43, op := .slice 97 (.tmp 41) none (some (.tmp 42)) none, type := _, pos := _, after := _, guard := none }) (v := .slice (some ⟨b, 0, none⟩) m cap) rfl (by kernel_rfl) (by kernel_rfl) (by kernel_rfl) (fun _ _ _ h => h) (Or.inl ⟨by rfl, ?_⟩) fa ?_
        · intro w hSw
          go_simp
        simp only [Act.put, List.setIfInBounds_toArray, List.set_cons_zero, List.set_cons_succ]
        refine wpAnyH_ready (rs := [12]) (by kernel_rfl) (by simp) ?_
        refine AllReadyH.cons (o := { dst := some 49, op := .call { callee := .builtin .append, args := #[.tmp 43, .tmp 48], argTypes := #[97, 97] }, type := _, pos := _, after := _, guard := none }) rfl (fun K hK => ?_) AllReadyH.nil
        refine step_app32 (.tmp 43) (.tmp 48) A _ (S.take m) M wq.heap.size rfl rfl rfl rfl hTo hnew hlen2 hAa ?_
        intro v' w5 hown5 hgr5
        have hF5 : Fw A g wa w5 := Fw.grown hTo hgr5
        have hA5 : At 99 w5 g (pre ++ opsC ++ [.slice (some ⟨b, 0, none⟩) n cap]) := by
          unfold At
          rw [hgr5.block g hTa.lt (fun e => hTa.ne e.symm)]
          exact hTa.cell
        have f5 : w5.cell? ⟨w.heap.size, 1 + f, none⟩ = some (.int .u8 (M : Int)) := by rw [(hF5.at hBa hgw (by decide)).cell]; exact hMc
        refine hK.out _ _ f5 (fun _ => ?_)
        clear hK K
        refine wpAnyH_take (i := 13) (oi := { dst := some 50, op := .nilCheck (.tmp 37), type := _, pos := _, after := _, guard := none }) (v := .pointer (some ⟨g, 0, none⟩)) rfl (by kernel_rfl) (by kernel_rfl) (by kernel_rfl) (fun _ _ _ h => h) (Or.inl ⟨by rfl, ?_⟩) f5 ?_
        · intro w hSw
          go_simp
        simp only [Act.put, List.setIfInBounds_toArray, List.set_cons_zero, List.set_cons_succ]
        refine wpAnyH_take (i := 14) (oi := { dst := some 51, op := .fieldAddr 99 (.tmp 50) 2, type := _, pos := _, after := _, guard := none }) (v := .pointer (some ⟨g, 106, none⟩)) rfl (by kernel_rfl) (by kernel_rfl) (by kernel_rfl) (fun _ _ _ h => h) (Or.inl ⟨by rfl, ?_⟩) f5 ?_
        · intro w hSw
          go_simp
        simp only [Act.put, List.setIfInBounds_toArray, List.set_cons_zero, List.set_cons_succ]
        refine wpAnyH_ready (rs := [15]) (by kernel_rfl) (by simp) ?_
        refine AllReadyH.cons (o := { dst := none, op := .store 97 (.tmp 51) (.tmp 49), type := _, pos := _, after := _, guard := none }) rfl (fun K hK => ?_) AllReadyH.nil
        obtain ⟨va, vc, rfl⟩ : ∃ a c, v' = .slice a (m + 1) c := own_len (n := m + 1) (by rwa [List.length_append, htk] at hown5)
        have k1 : w5.cell? ⟨g, 106, none⟩ = some (.slice (some ⟨b, 0, none⟩) n cap) := by rw [hA5.cell]; exact hlast
        have k2 : w5.frozen? ⟨g, 106, none⟩ = false := hA5.frozen 106
        have hT6 := HT.out.put hp hA5 hown5
        have hB6 : But g w5 (w5.setCell ⟨g, 106, none⟩ (.slice va (m + 1) vc)) := (But.refl g w5).setCell 106 (.slice va (m + 1) vc)
        have f6 : (w5.setCell ⟨g, 106, none⟩ (.slice va (m + 1) vc)).cell? ⟨w.heap.size, 1 + f, none⟩ = some (.int .u8 (M : Int)) := by rw [(hB6.at (hF5.at hBa hgw (by decide)) hgw).cell]; exact hMc
        go_simp
        refine hK.out _ _ f6 (fun _ => ?_)
        clear hK K
        refine wpAnyH_done (by kernel_rfl) ?_ _
        have hF6 : Fw A g w (w5.setCell ⟨g, 106, none⟩ (.slice va (m + 1) vc)) := (hFa.trans hF5).trans (Fw.of_but hB6)
        obtain ⟨w6, hw6⟩ : ∃ x, x = w5.setCell ⟨g, 106, none⟩ (.slice va (m + 1) vc) := ⟨_, rfl⟩
        rw [← hw6] at hT6 hF6 f6 ⊢
        have HT6 : Hid (Ty A w6 g pre (.slice va (m + 1) vc) (S.take m ++ [M])) := hT6
        have HF6 : Hid (Fw A g w w6) := hF6
        clear hw6 k1 k2 f5 hB6 hA5 hF5 hgr5 hown5 hT6 hF6 hTa hTo hBa hFa hnew hlast hMc hbA
        have hfl' : ((f : Int) == (l : Int)) = true := by rw [beq_iff_eq]; have := HFL.out; omega
        go_wp2
        go_ret
        exact ⟨_, by rw [decide_eq_true HFL.out, Bool.true_and, hMne]; rfl, HT6.out, HF6.out⟩
    · skip
      have HFL : Hid (¬ f = l) := hfl
      have hf4 : ¬ (4 : Int) ≤ (f : Int) := by omega
      clear hfl
      go_enter Try.func86, Try.ntmps86
      go_wp2_with (first
        | ((with_reducible show wpList _ _ _ _ _ _); refine wpList_box_at rfl 94 (.tmp 1) rfl oc rfl ?_; intro w1 hA1 hb1 hs1; clear hs1; refine Hid.out ?_))
      refine hidU ?_
      have q0 : w1.cell? ⟨w.heap.size, 0, none⟩ = some (.int .i64 (k : Int)) := by rw [hA1.cell]; exact hc0
      have hT1 := HT.out.below hb1
      have q1 : w1.cell? ⟨g, 106, none⟩ = some (.slice (some ⟨b, 0, none⟩) n cap) := hT1.head hp
      go_wp2_with fail
      go_quiet (fail)
      obtain ⟨wz, hwz⟩ : ∃ x, x = w1.drewN nq := ⟨_, rfl⟩
      rw [← hwz]
      have hbz : Below w.heap.size w wz := by rw [hwz]; exact hb1.trans ((below_drewN _ _).mono hb1.size)
      have hTz : Ty A wz g pre (.slice (some ⟨b, 0, none⟩) n cap) S := by rw [hwz]; exact hT1.below (below_drewN _ _)
      have hAz : At 94 wz w.heap.size oc := by rw [hwz]; exact hA1.below (below_drewN _ _)
      clear hwz q0 q1 hT1 hA1 hb1
      have q1 : wz.cell? ⟨g, 106, none⟩ = some (.slice (some ⟨b, 0, none⟩) n cap) := hTz.head hp
      obtain ⟨cm, cp⟩ := HC.out wz hTz
      clear HC
      go_wp2_with fail
      go_quiet (fail)
      obtain ⟨wq, hwq⟩ : ∃ x, x = wz.drewN nq := ⟨_, rfl⟩
      rw [← hwq]
      have hbq : Below w.heap.size w wq := by rw [hwq]; exact hbz.trans ((below_drewN _ _).mono hbz.size)
      have hTq : Ty A wq g pre (.slice (some ⟨b, 0, none⟩) n cap) S := by rw [hwq]; exact hTz.below (below_drewN _ _)
      have hAq : At 94 wq w.heap.size oc := by rw [hwq]; exact hAz.below (below_drewN _ _)
      clear hwq q1 cm cp hTz hAz hbz
      go_wp2_with fail
      have f0 : wq.drew.cell? ⟨w.heap.size, 1 + f, none⟩ = some (.int .u8 (M : Int)) := by show wq.cell? _ = _; rw [hAq.cell]; exact hMc
      refine wp_region_held_drew (S := fun x => x.cell? ⟨w.heap.size, 1 + f, none⟩ = some (.int .u8 (M : Int))) (by kernel_rfl) f0 (fun _ => ?_)
      refine wpAnyH_take (i := 0) (oi := { dst := some 37, op := .move (.tmp 0), type := _, pos := _, after := _, guard := none }) (v := .pointer (some ⟨g, 0, none⟩)) rfl (by kernel_rfl) (by kernel_rfl) (by kernel_rfl) (fun _ _ _ h => h) (Or.inl ⟨by rfl, ?_⟩) f0 ?_
      · intro w hSw
        go_simp
      simp only [Act.put, List.setIfInBounds_toArray, List.set_cons_zero, List.set_cons_succ]
      refine wpAnyH_take (i := 1) (oi := { dst := some 38, op := .move (.tmp 0), type := _, pos := _, after := _, guard := none }) (v := .pointer (some ⟨g, 0, none⟩)) rfl (by kernel_rfl) (by kernel_rfl) (by kernel_rfl) (fun _ _ _ h => h) (Or.inl ⟨by rfl, ?_⟩) f0 ?_
      · intro w hSw
        go_simp
      simp only [Act.put, List.setIfInBounds_toArray, List.set_cons_zero, List.set_cons_succ]
      refine wpAnyH_take (i := 2) (oi := { dst := some 39, op := .nilCheck (.tmp 38), type := _, pos := _, after := _, guard := none }) (v := .pointer (some ⟨g, 0, none⟩)) rfl (by kernel_rfl) (by kernel_rfl) (by kernel_rfl) (fun _ _ _ h => h) (Or.inl ⟨by rfl, ?_⟩) f0 ?_
      · intro w hSw
        go_simp
      simp only [Act.put, List.setIfInBounds_toArray, List.set_cons_zero, List.set_cons_succ]
      refine wpAnyH_take (i := 3) (oi := { dst := some 40, op := .fieldAddr 99 (.tmp 39) 2, type := _, pos := _, after := _, guard := none }) (v := .pointer (some ⟨g, 106, none⟩)) rfl (by kernel_rfl) (by kernel_rfl) (by kernel_rfl) (fun _ _ _ h => h) (Or.inl ⟨by rfl, ?_⟩) f0 ?_
      · intro w hSw
        go_simp
      simp only [Act.put, List.setIfInBounds_toArray, List.set_cons_zero, List.set_cons_succ]
      refine wpAnyH_take (i := 5) (oi := { dst := some 42, op := .move (.tmp 5), type := _, pos := _, after := _, guard := none }) (v := .int .i64 (m : Int)) rfl (by kernel_rfl) (by kernel_rfl) (by kernel_rfl) (fun _ _ _ h => h) (Or.inl ⟨by rfl, ?_⟩) f0 ?_
      · intro w hSw
        go_simp
      simp only [Act.put, List.setIfInBounds_toArray, List.set_cons_zero, List.set_cons_succ]
      refine wpAnyH_take (i := 7) (oi := { dst := some 44, op := .move (.tmp 6), type := _, pos := _, after := _, guard := none }) (v := .int .u8 (f : Int)) rfl (by kernel_rfl) (by kernel_rfl) (by kernel_rfl) (fun _ _ _ h => h) (Or.inl ⟨by rfl, ?_⟩) f0 ?_
      · intro w hSw
        go_simp
      simp only [Act.put, List.setIfInBounds_toArray, List.set_cons_zero, List.set_cons_succ]
      refine wpAnyH_take (i := 8) (oi := { dst := some 45, op := .fieldAddr 94 (.tmp 3) 1, type := _, pos := _, after := _, guard := none }) (v := .pointer (some ⟨w.heap.size, 1, none⟩)) rfl (by kernel_rfl) (by kernel_rfl) (by kernel_rfl) (fun _ _ _ h => h) (Or.inl ⟨by rfl, ?_⟩) f0 ?_
      · intro w hSw
        go_simp
      simp only [Act.put, List.setIfInBounds_toArray, List.set_cons_zero, List.set_cons_succ]
      refine wpAnyH_take (i := 9) (oi := { dst := some 46, op := .indexAddr 92 (.tmp 45) (.tmp 44), type := _, pos := _, after := _, guard := none }) (v := .pointer (some ⟨w.heap.size, 1 + f, none⟩)) rfl (by kernel_rfl) (by kernel_rfl) (by kernel_rfl) (fun _ _ _ h => h) (Or.inl ⟨by rfl, ?_⟩) f0 ?_
      · intro w hSw
        go_simp
      simp only [Act.put, List.setIfInBounds_toArray, List.set_cons_zero, List.set_cons_succ]
      refine wpAnyH_take (i := 10) (oi := { dst := some 47, op := .load 32 (.tmp 46), type := _, pos := _, after := _, guard := none }) (v := .int .u8 (M : Int)) rfl (by kernel_rfl) (by kernel_rfl) (by kernel_rfl) (fun _ _ _ h => h) (Or.inl ⟨by rfl, ?_⟩) f0 ?_
      · intro w hSw
        go_simp
      simp only [Act.put, List.setIfInBounds_toArray, List.set_cons_zero, List.set_cons_succ]
      refine wpAnyH_ready (rs := [4, 11]) (by kernel_rfl) (by simp) ?_
      refine AllReadyH.cons (o := { dst := some 41, op := .load 97 (.tmp 40), type := _, pos := _, after := _, guard := none }) rfl (fun K hK => ?_) (AllReadyH.cons (o := { dst := some 48, op := .buildSlice 97 1 #[(0, .tmp 47)], type := _, pos := _, after := _, guard := none }) rfl (fun K hK => ?_) AllReadyH.nil)
      · skip
        rw [if_pos (by rfl)]
        have k0 : wq.drew.cell? ⟨g, 106, none⟩ = some (.slice (some ⟨b, 0, none⟩) n cap) := (show Ty A wq.drew g pre _ S from hTq.below (Below.drew (Below.refl _ _))).head hp
        go_simp
        refine hK.out _ _ f0 (fun _ => ?_)
        clear hK K
        try simp only [Act.put, List.setIfInBounds_toArray, List.set_cons_zero, List.set_cons_succ]
        refine wpAnyH_take (i := 6) (oi := { dst := some 43, op := .slice 97 (.tmp 41) none (some (.tmp 42)) none, type := _, pos := _, after := _, guard := none }) (v := .slice (some ⟨b, 0, none⟩) m cap) rfl (by kernel_rfl) (by kernel_rfl) (by kernel_rfl) (fun _ _ _ h => h) (Or.inl ⟨by rfl, ?_⟩) f0 ?_
        · intro w hSw
          go_simp
        simp only [Act.put, List.setIfInBounds_toArray, List.set_cons_zero, List.set_cons_succ]
        refine wpAnyH_ready (rs := [11]) (by kernel_rfl) (by simp) ?_
        refine AllReadyH.cons (o := { dst := some 48, op := .buildSlice 97 1 #[(0, .tmp 47)], type := _, pos := _, after := _, guard := none }) rfl (fun K hK => ?_) AllReadyH.nil
        rw [if_pos (by rfl)]
        go_simp
        obtain ⟨wa, hwa⟩ : ∃ x, x = (wq.alloc (.cells #[.int .u8 (M : Int)] 32)).drew := ⟨_, rfl⟩
        have hbA : Below wq.heap.size wq wa := by rw [hwa]; exact Below.drew ((Below.refl _ _).alloc (Nat.le_refl _) _)
        have hnew : wa.cell? ⟨wq.heap.size, 0, none⟩ = some (tyC M) := by rw [hwa]; show (wq.alloc (.cells #[.int .u8 (M : Int)] 32)).cell? _ = _; rw [World.cell?_alloc_at _ _ _ _ rfl]; rfl
        have hTa := hTq.below hbA
        have hTo := own_take hTa.own hmS
        have hBa := hAq.below hbA
        have hFa : Fw A g w wa := (Fw.of_below hbq).trans (Fw.of_below hbA)
        have hAa : A ≤ wa.heap.size := by have := hbA.size; have := hbq.size; omega
        have fa : wa.cell? ⟨w.heap.size, 1 + f, none⟩ = some (.int .u8 (M : Int)) := by rw [hBa.cell]; exact hMc
        rw [← hwa]
        clear hwa
        refine hK.out _ _ fa (fun _ => ?_)
        clear hK K
        try simp only [Act.put, List.setIfInBounds_toArray, List.set_cons_zero, List.set_cons_succ]
        refine wpAnyH_ready (rs := [12]) (by kernel_rfl) (by simp) ?_
        refine AllReadyH.cons (o := { dst := some 49, op := .call { callee := .builtin .append, args := #[.tmp 43, .tmp 48], argTypes := #[97, 97] }, type := _, pos := _, after := _, guard := none }) rfl (fun K hK => ?_) AllReadyH.nil
        refine step_app32 (.tmp 43) (.tmp 48) A _ (S.take m) M wq.heap.size rfl rfl rfl rfl hTo hnew hlen2 hAa ?_
        intro v' w5 hown5 hgr5
        have hF5 : Fw A g wa w5 := Fw.grown hTo hgr5
        have hA5 : At 99 w5 g (pre ++ opsC ++ [.slice (some ⟨b, 0, none⟩) n cap]) := by
          unfold At
          rw [hgr5.block g hTa.lt (fun e => hTa.ne e.symm)]
          exact hTa.cell
        have f5 : w5.cell? ⟨w.heap.size, 1 + f, none⟩ = some (.int .u8 (M : Int)) := by rw [(hF5.at hBa hgw (by decide)).cell]; exact hMc
        refine hK.out _ _ f5 (fun _ => ?_)
        clear hK K
        refine wpAnyH_take (i := 13) (oi := { dst := some 50, op := .nilCheck (.tmp 37), type := _, pos := _, after := _, guard := none }) (v := .pointer (some ⟨g, 0, none⟩)) rfl (by kernel_rfl) (by kernel_rfl) (by kernel_rfl) (fun _ _ _ h => h) (Or.inl ⟨by rfl, ?_⟩) f5 ?_
        · intro w hSw
          go_simp
        simp only [Act.put, List.setIfInBounds_toArray, List.set_cons_zero, List.set_cons_succ]
        refine wpAnyH_take (i := 14) (oi := { dst := some 51, op := .fieldAddr 99 (.tmp 50) 2, type := _, pos := _, after := _, guard := none }) (v := .pointer (some ⟨g, 106, none⟩)) rfl (by kernel_rfl) (by kernel_rfl) (by kernel_rfl) (fun _ _ _ h => h) (Or.inl ⟨by rfl, ?_⟩) f5 ?_
        · intro w hSw
          go_simp
        simp only [Act.put, List.setIfInBounds_toArray, List.set_cons_zero, List.set_cons_succ]
        refine wpAnyH_ready (rs := [15]) (by kernel_rfl) (by simp) ?_
        refine AllReadyH.cons (o := { dst := none, op := .store 97 (.tmp 51) (.tmp 49), type := _, pos := _, after := _, guard := none }) rfl (fun K hK => ?_) AllReadyH.nil
        obtain ⟨va, vc, rfl⟩ : ∃ a c, v' = .slice a (m + 1) c := own_len (n := m + 1) (by rwa [List.length_append, htk] at hown5)
        have k1 : w5.cell? ⟨g, 106, none⟩ = some (.slice (some ⟨b, 0, none⟩) n cap) := by rw [hA5.cell]; exact hlast
        have k2 : w5.frozen? ⟨g, 106, none⟩ = false := hA5.frozen 106
        have hT6 := HT.out.put hp hA5 hown5
        have hB6 : But g w5 (w5.setCell ⟨g, 106, none⟩ (.slice va (m + 1) vc)) := (But.refl g w5).setCell 106 (.slice va (m + 1) vc)
        have f6 : (w5.setCell ⟨g, 106, none⟩ (.slice va (m + 1) vc)).cell? ⟨w.heap.size, 1 + f, none⟩ = some (.int .u8 (M : Int)) := by rw [(hB6.at (hF5.at hBa hgw (by decide)) hgw).cell]; exact hMc
        go_simp
        refine hK.out _ _ f6 (fun _ => ?_)
        clear hK K
        refine wpAnyH_done (by kernel_rfl) ?_ _
        have hF6 : Fw A g w (w5.setCell ⟨g, 106, none⟩ (.slice va (m + 1) vc)) := (hFa.trans hF5).trans (Fw.of_but hB6)
        obtain ⟨w6, hw6⟩ : ∃ x, x = w5.setCell ⟨g, 106, none⟩ (.slice va (m + 1) vc) := ⟨_, rfl⟩
        rw [← hw6] at hT6 hF6 f6 ⊢
        have HT6 : Hid (Ty A w6 g pre (.slice va (m + 1) vc) (S.take m ++ [M])) := hT6
        have HF6 : Hid (Fw A g w w6) := hF6
        clear hw6 k1 k2 f5 hB6 hA5 hF5 hgr5 hown5 hT6 hF6 hTa hTo hBa hFa hnew hlast hMc hbA
        have hfl' : ((f : Int) == (l : Int)) = false := by rw [beq_eq_false_iff_ne]; have := HFL.out; omega
        go_wp2
        go_ret
        exact ⟨_, by rw [decide_eq_false HFL.out, Bool.false_and]; rfl, HT6.out, HF6.out⟩
      · skip
        rw [if_pos (by rfl)]
        go_simp
        obtain ⟨wa, hwa⟩ : ∃ x, x = (wq.alloc (.cells #[.int .u8 (M : Int)] 32)).drew := ⟨_, rfl⟩
        have hbA : Below wq.heap.size wq wa := by rw [hwa]; exact Below.drew ((Below.refl _ _).alloc (Nat.le_refl _) _)
        have hnew : wa.cell? ⟨wq.heap.size, 0, none⟩ = some (tyC M) := by rw [hwa]; show (wq.alloc (.cells #[.int .u8 (M : Int)] 32)).cell? _ = _; rw [World.cell?_alloc_at _ _ _ _ rfl]; rfl
        have hTa := hTq.below hbA
        have hTo := own_take hTa.own hmS
        have hBa := hAq.below hbA
        have hFa : Fw A g w wa := (Fw.of_below hbq).trans (Fw.of_below hbA)
        have hAa : A ≤ wa.heap.size := by have := hbA.size; have := hbq.size; omega
        have fa : wa.cell? ⟨w.heap.size, 1 + f, none⟩ = some (.int .u8 (M : Int)) := by rw [hBa.cell]; exact hMc
        rw [← hwa]
        clear hwa
        refine hK.out _ _ fa (fun _ => ?_)
        clear hK K
        try simp only [Act.put, List.setIfInBounds_toArray, List.set_cons_zero, List.set_cons_succ]
        refine wpAnyH_ready (rs := [4]) (by kernel_rfl) (by simp) ?_
        refine AllReadyH.cons (o := { dst := some 41, op := .load 97 (.tmp 40), type := _, pos := _, after := _, guard := none }) rfl (fun K hK => ?_) AllReadyH.nil
        rw [if_pos (by rfl)]
        have k0 : wa.cell? ⟨g, 106, none⟩ = some (.slice (some ⟨b, 0, none⟩) n cap) := hTa.head hp
        go_simp
        refine hK.out _ _ fa (fun _ => ?_)
        clear hK K
        try simp only [Act.put, List.setIfInBounds_toArray, List.set_cons_zero, List.set_cons_succ]
        refine wpAnyH_take (i := 6) (oi := { dst := some 43, op := .slice 97 (.tmp 41) none (some (.tmp 42)) none, type := _, pos := _, after := _, guard := none }) (v := .slice (some ⟨b, 0, none⟩) m cap) rfl (by kernel_rfl) (by kernel_rfl) (by kernel_rfl) (fun _ _ _ h => h) (Or.inl ⟨by rfl, ?_⟩) fa ?_
        · intro w hSw
          go_simp
        simp only [Act.put, List.setIfInBounds_toArray, List.set_cons_zero, List.set_cons_succ]
        refine wpAnyH_ready (rs := [12]) (by kernel_rfl) (by simp) ?_
        refine AllReadyH.cons (o := { dst := some 49, op := .call { callee := .builtin .append, args := #[.tmp 43, .tmp 48], argTypes := #[97, 97] }, type := _, pos := _, after := _, guard := none }) rfl (fun K hK => ?_) AllReadyH.nil
        refine step_app32 (.tmp 43) (.tmp 48) A _ (S.take m) M wq.heap.size rfl rfl rfl rfl hTo hnew hlen2 hAa ?_
        intro v' w5 hown5 hgr5
        have hF5 : Fw A g wa w5 := Fw.grown hTo hgr5
        have hA5 : At 99 w5 g (pre ++ opsC ++ [.slice (some ⟨b, 0, none⟩) n cap]) := by
          unfold At
          rw [hgr5.block g hTa.lt (fun e => hTa.ne e.symm)]
          exact hTa.cell
        have f5 : w5.cell? ⟨w.heap.size, 1 + f, none⟩ = some (.int .u8 (M : Int)) := by rw [(hF5.at hBa hgw (by decide)).cell]; exact hMc
        refine hK.out _ _ f5 (fun _ => ?_)
        clear hK K
        refine wpAnyH_take (i := 13) (oi := { dst := some 50, op := .nilCheck (.tmp 37), type := _, pos := _, after := _, guard := none }) (v := .pointer (some ⟨g, 0, none⟩)) rfl (by kernel_rfl) (by kernel_rfl) (by kernel_rfl) (fun _ _ _ h => h) (Or.inl ⟨by rfl, ?_⟩) f5 ?_
        · intro w hSw
          go_simp
        simp only [Act.put, List.setIfInBounds_toArray, List.set_cons_zero, List.set_cons_succ]
        refine wpAnyH_take (i := 14) (oi := { dst := some 51, op := .fieldAddr 99 (.tmp 50) 2, type := _, pos := _, after := _, guard := none }) (v := .pointer (some ⟨g, 106, none⟩)) rfl (by kernel_rfl) (by kernel_rfl) (by kernel_rfl) (fun _ _ _ h => h) (Or.inl ⟨by rfl, ?_⟩) f5 ?_
        · intro w hSw
          go_simp
        simp only [Act.put, List.setIfInBounds_toArray, List.set_cons_zero, List.set_cons_succ]
        refine wpAnyH_ready (rs := [15]) (by kernel_rfl) (by simp) ?_
        refine AllReadyH.cons (o := { dst := none, op := .store 97 (.tmp 51) (.tmp 49), type := _, pos := _, after := _, guard := none }) rfl (fun K hK => ?_) AllReadyH.nil
        obtain ⟨va, vc, rfl⟩ : ∃ a c, v' = .slice a (m + 1) c := own_len (n := m + 1) (by rwa [List.length_append, htk] at hown5)
        have k1 : w5.cell? ⟨g, 106, none⟩ = some (.slice (some ⟨b, 0, none⟩) n cap) := by rw [hA5.cell]; exact hlast
        have k2 : w5.frozen? ⟨g, 106, none⟩ = false := hA5.frozen 106
        have hT6 := HT.out.put hp hA5 hown5
        have hB6 : But g w5 (w5.setCell ⟨g, 106, none⟩ (.slice va (m + 1) vc)) := (But.refl g w5).setCell 106 (.slice va (m + 1) vc)
        have f6 : (w5.setCell ⟨g, 106, none⟩ (.slice va (m + 1) vc)).cell? ⟨w.heap.size, 1 + f, none⟩ = some (.int .u8 (M : Int)) := by rw [(hB6.at (hF5.at hBa hgw (by decide)) hgw).cell]; exact hMc
        go_simp
        refine hK.out _ _ f6 (fun _ => ?_)
        clear hK K
        refine wpAnyH_done (by kernel_rfl) ?_ _
        have hF6 : Fw A g w (w5.setCell ⟨g, 106, none⟩ (.slice va (m + 1) vc)) := (hFa.trans hF5).trans (Fw.of_but hB6)
        obtain ⟨w6, hw6⟩ : ∃ x, x = w5.setCell ⟨g, 106, none⟩ (.slice va (m + 1) vc) := ⟨_, rfl⟩
        rw [← hw6] at hT6 hF6 f6 ⊢
        have HT6 : Hid (Ty A w6 g pre (.slice va (m + 1) vc) (S.take m ++ [M])) := hT6
        have HF6 : Hid (Fw A g w w6) := hF6
        clear hw6 k1 k2 f5 hB6 hA5 hF5 hgr5 hown5 hT6 hF6 hTa hTo hBa hFa hnew hlast hMc hbA
        have hfl' : ((f : Int) == (l : Int)) = false := by rw [beq_eq_false_iff_ne]; have := HFL.out; omega
        go_wp2
        go_ret
        exact ⟨_, by rw [decide_eq_false HFL.out, Bool.false_and]; rfl, HT6.out, HF6.out⟩

end Go.Proofs.Ytefklmckkigllaa
