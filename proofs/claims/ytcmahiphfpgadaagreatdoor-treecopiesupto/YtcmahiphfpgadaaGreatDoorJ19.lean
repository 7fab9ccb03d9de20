/- Joined texts of the proof. -/
import Derived.Test.YtcmahiphfpgadaaGreatDoorJ18
import Derived.Test.YtcmahiphfpgadaaGreatDoorJ8
import Derived.Test.YtcmahiphfpgadaaGreatDoorJ12

/- Statements are copied into blocks that may be written. -/
namespace Go.Proofs.YtcmahiphfpgadaaGreatDoor
open Go.RowKit
set_option linter.unusedVariables false
set_option maxRecDepth 100000 in
set_option maxHeartbeats 6400000 in
theorem soStmt_of (B : Nat) (k : Int) (nm : ByteArray) (op t b : Nat) (enm : ByteArray) (ea : Option Addr) (ec : Nat) (eks : List ET) (a1 : Option Addr) (c1 : Nat) (b1 : List ST) (a2 : Option Addr) (c2 : Nat) (b2 : List ST) (hnm : nm.size ≤ 281474976710656) (hE : SoEW B (.mk op t b enm ea ec eks)) (hS1 : ∀ s ∈ b1, SoSW B s) (hS2 : ∀ s ∈ b2, SoSW B s) : SoSW B (.mk k nm (.mk op t b enm ea ec eks) a1 c1 b1 a2 c2 b2) := by
  intro w hin hBw
  have hC := fun w (_ : Below w.heap.size w w) => clone59 nm w hnm
  unfold ST.In at hin
  obtain ⟨z1, z2, z3, z4⟩ := hin
  have HI : Hid (-9223372036854775808 ≤ k ∧ k ≤ 9223372036854775807) := z1
  have hO : ∀ w2, Below w.heap.size w w2 → ∀ x, Below w2.heap.size w2 x → Old B w x ∧ B ≤ x.heap.size := fun w2 h2 x hx => ⟨Old.of_below (h2.trans (hx.mono h2.size)) hBw, by have := h2.size; have := hx.size; omega⟩
  obtain ⟨en, hen⟩ : ∃ n, Hid (n = eks.length) := ⟨_, (rfl : eks.length = _)⟩
  obtain ⟨n1, hn1⟩ : ∃ n, Hid (n = b1.length) := ⟨_, (rfl : b1.length = _)⟩
  obtain ⟨n2, hn2⟩ : ∃ n, Hid (n = b2.length) := ⟨_, (rfl : b2.length = _)⟩
  have G1 : ∀ w2, Below w.heap.size w w2 → ∀ x, Below w2.heap.size w2 x → Calls Tryz.prog 92 #[.slice a1 n1 c1, .func (.func 93) #[] #[]] x fun r w' => ∃ (a' : Option Addr) (c' : Nat) (ys : List ST), r = .returned (.slice a' ys.length c') ∧ ys.map ST.st = b1.map ST.st ∧ RowS w'.heap.size w' a' c' ys ∧ (ys = [] ∨ ∃ g o, a' = some ⟨g, o, none⟩ ∧ Fr x.heap.size w' g) ∧ ST.LiesL (Fr x.heap.size w') ys ∧ Below x.heap.size x w' := fun w2 h2 x hx => by
    rw [hn1.out]
    exact softS_of B b1 hS1 a1 c1 x (RowS.old z3 (hO w2 h2 x hx).1) (hO w2 h2 x hx).2
  have G2 : ∀ w2, Below w.heap.size w w2 → ∀ x, Below w2.heap.size w2 x → Calls Tryz.prog 92 #[.slice a2 n2 c2, .func (.func 93) #[] #[]] x fun r w' => ∃ (a' : Option Addr) (c' : Nat) (ys : List ST), r = .returned (.slice a' ys.length c') ∧ ys.map ST.st = b2.map ST.st ∧ RowS w'.heap.size w' a' c' ys ∧ (ys = [] ∨ ∃ g o, a' = some ⟨g, o, none⟩ ∧ Fr x.heap.size w' g) ∧ ST.LiesL (Fr x.heap.size w') ys ∧ Below x.heap.size x w' := fun w2 h2 x hx => by
    rw [hn2.out]
    exact softS_of B b2 hS2 a2 c2 x (RowS.old z4 (hO w2 h2 x hx).1) (hO w2 h2 x hx).2
  have GE : ∀ w2, Below w.heap.size w w2 → ∀ x, Below w2.heap.size w2 x → Calls Tryz.prog 118 #[.agg #[.int .u8 (op : Int), .int .u8 (t : Int), .int .u64 (b : Int), .string enm, .slice ea en ec]] x fun r w' => ∃ y : ET, r = .returned (.agg y.cells.toArray) ∧ y.ex = (ET.mk op t b enm ea ec eks).ex ∧ y.In w'.heap.size w' ∧ y.Lies (Fr x.heap.size w') ∧ Below x.heap.size x w' := fun w2 h2 x hx => by
    rw [hen.out]
    exact hE x (z2.old (hO w2 h2 x hx).1) (hO w2 h2 x hx).2
  have HG : Hid (∀ w2, Below w.heap.size w w2 → (∀ x, Below w2.heap.size w2 x → Calls Tryz.prog 118 #[.agg #[.int .u8 (op : Int), .int .u8 (t : Int), .int .u64 (b : Int), .string enm, .slice ea en ec]] x fun r w' => ∃ y : ET, r = .returned (.agg y.cells.toArray) ∧ y.ex = (ET.mk op t b enm ea ec eks).ex ∧ y.In w'.heap.size w' ∧ y.Lies (Fr x.heap.size w') ∧ Below x.heap.size x w') ∧ (∀ x, Below w2.heap.size w2 x → Calls Tryz.prog 92 #[.slice a1 n1 c1, .func (.func 93) #[] #[]] x fun r w' => ∃ (a' : Option Addr) (c' : Nat) (ys : List ST), r = .returned (.slice a' ys.length c') ∧ ys.map ST.st = b1.map ST.st ∧ RowS w'.heap.size w' a' c' ys ∧ (ys = [] ∨ ∃ g o, a' = some ⟨g, o, none⟩ ∧ Fr x.heap.size w' g) ∧ ST.LiesL (Fr x.heap.size w') ys ∧ Below x.heap.size x w') ∧ (∀ x, Below w2.heap.size w2 x → Calls Tryz.prog 92 #[.slice a2 n2 c2, .func (.func 93) #[] #[]] x fun r w' => ∃ (a' : Option Addr) (c' : Nat) (ys : List ST), r = .returned (.slice a' ys.length c') ∧ ys.map ST.st = b2.map ST.st ∧ RowS w'.heap.size w' a' c' ys ∧ (ys = [] ∨ ∃ g o, a' = some ⟨g, o, none⟩ ∧ Fr x.heap.size w' g) ∧ ST.LiesL (Fr x.heap.size w') ys ∧ Below x.heap.size x w')) := fun w2 h2 => ⟨GE w2 h2, G1 w2 h2, G2 w2 h2⟩
  clear z1 z2 z3 z4 hO hE hS1 hS2 G1 G2 GE
  have hgo : Calls Tryz.prog 93 #[.agg (st9 k nm (ex5 op t b enm (.slice ea en ec)) (.slice a1 n1 c1) (.slice a2 n2 c2)).toArray] w fun r w' => Hid (∃ y : ST, r = .returned (.agg y.cells.toArray) ∧ y.st = (ST.mk k nm (.mk op t b enm ea ec eks) a1 c1 b1 a2 c2 b2).st ∧ y.In w'.heap.size w' ∧ y.Lies (Fr w.heap.size w') ∧ Below w.heap.size w w') := by
    go_enter Tryz.func93, Tryz.ntmps93
    go_wp2_with (first
      | ((with_reducible show wpList _ _ _ _ _ _); refine wpList_box_at rfl 87 (.tmp 0) rfl (st9 k nm (ex5 op t b enm (.slice ea en ec)) (.slice a1 n1 c1) (.slice a2 n2 c2)) rfl ?_; intro w1 hA1 hb1 hs1; clear hs1)
      | ((with_reducible show wpList _ _ _ _ _ _); refine wpList_alloc_at rfl 87 rfl _ 9 z38 ?_; intro w2 hA2 hb2 hs2; clear hs2; refine Hid.out ?_))
    refine hidU ?_
    have hA12 := hA1.below hb2
    have hbw : Below w.heap.size w w2 := hb1.trans (hb2.mono hb1.size)
    have hlt : w.heap.size < w1.heap.size := hA1.lt
    have HK : Hid (∀ x, Below w2.heap.size w2 x → x.cell? ⟨w.heap.size, 0, none⟩ = some (.int .i64 k) ∧ x.cell? ⟨w.heap.size, 1, none⟩ = some (.string nm) ∧ x.cell? ⟨w.heap.size, 2, none⟩ = some (.int .u8 (op : Int)) ∧ x.cell? ⟨w.heap.size, 3, none⟩ = some (.int .u8 (t : Int)) ∧ x.cell? ⟨w.heap.size, 4, none⟩ = some (.int .u64 (b : Int)) ∧ x.cell? ⟨w.heap.size, 5, none⟩ = some (.string enm) ∧ x.cell? ⟨w.heap.size, 6, none⟩ = some (.slice ea en ec) ∧ x.cell? ⟨w.heap.size, 7, none⟩ = some (.slice a1 n1 c1) ∧ x.cell? ⟨w.heap.size, 8, none⟩ = some (.slice a2 n2 c2)) := fun x hx => by
      have hA := hA12.below hx
      refine ⟨?_, ?_, ?_, ?_, ?_, ?_, ?_, ?_, ?_⟩ <;> (rw [hA.cell]; rfl)
    have HK' : Hid (∀ x, Below w2.heap.size w2 x → ∀ vs, (x.setCells w1.heap.size 0 vs).cell? ⟨w.heap.size, 0, none⟩ = some (.int .i64 k) ∧ (x.setCells w1.heap.size 0 vs).cell? ⟨w.heap.size, 1, none⟩ = some (.string nm) ∧ (x.setCells w1.heap.size 0 vs).cell? ⟨w.heap.size, 2, none⟩ = some (.int .u8 (op : Int)) ∧ (x.setCells w1.heap.size 0 vs).cell? ⟨w.heap.size, 3, none⟩ = some (.int .u8 (t : Int)) ∧ (x.setCells w1.heap.size 0 vs).cell? ⟨w.heap.size, 4, none⟩ = some (.int .u64 (b : Int)) ∧ (x.setCells w1.heap.size 0 vs).cell? ⟨w.heap.size, 5, none⟩ = some (.string enm) ∧ (x.setCells w1.heap.size 0 vs).cell? ⟨w.heap.size, 6, none⟩ = some (.slice ea en ec) ∧ (x.setCells w1.heap.size 0 vs).cell? ⟨w.heap.size, 7, none⟩ = some (.slice a1 n1 c1) ∧ (x.setCells w1.heap.size 0 vs).cell? ⟨w.heap.size, 8, none⟩ = some (.slice a2 n2 c2)) := fun x hx vs => by
      have hA := (But.setCells vs 0 x (But.refl w1.heap.size x)).at (hA12.below hx) (by omega)
      refine ⟨?_, ?_, ?_, ?_, ?_, ?_, ?_, ?_, ?_⟩ <;> (rw [hA.cell]; rfl)
    have hB0 : Below w2.heap.size w2 w2.drew := Below.drew (Below.refl _ _)
    have hS0 := HK.out _ hB0
    clear hA1 hb1 hb2 hA12
    obtain ⟨qE, q1, q2⟩ := HG.out w2 hbw
    have HE : Hid _ := qE
    have H1 : Hid _ := q1
    have H2 : Hid _ := q2
    clear HG qE q1 q2
    go_wp2_with fail
    refine wp_region_held_drew (S := fun w' => w'.cell? ⟨w.heap.size, 0, none⟩ = some (.int .i64 k) ∧ w'.cell? ⟨w.heap.size, 1, none⟩ = some (.string nm) ∧ w'.cell? ⟨w.heap.size, 2, none⟩ = some (.int .u8 (op : Int)) ∧ w'.cell? ⟨w.heap.size, 3, none⟩ = some (.int .u8 (t : Int)) ∧ w'.cell? ⟨w.heap.size, 4, none⟩ = some (.int .u64 (b : Int)) ∧ w'.cell? ⟨w.heap.size, 5, none⟩ = some (.string enm) ∧ w'.cell? ⟨w.heap.size, 6, none⟩ = some (.slice ea en ec) ∧ w'.cell? ⟨w.heap.size, 7, none⟩ = some (.slice a1 n1 c1) ∧ w'.cell? ⟨w.heap.size, 8, none⟩ = some (.slice a2 n2 c2)) (by kernel_rfl) hS0 (fun _ => ?_)
    refine wpAnyH_take (i := 0) (oi := { dst := some 3, op := .fieldAddr 87 (.tmp 1) 0, type := _, pos := _, after := _, guard := none }) (v := .pointer (some ⟨w.heap.size, 0, none⟩)) rfl (by kernel_rfl) (by kernel_rfl) (by kernel_rfl) (fun _ _ _ h => h) (Or.inl ⟨by rfl, ?_⟩) hS0 ?_
    · intro w hSw
      go_simp
    simp only [Act.put, List.setIfInBounds_toArray, List.set_cons_zero, List.set_cons_succ]
    refine wpAnyH_take (i := 1) (oi := { dst := some 4, op := .load 3 (.tmp 3), type := _, pos := _, after := _, guard := none }) (v := .int .i64 k) rfl (by kernel_rfl) (by kernel_rfl) (by kernel_rfl) (fun _ _ _ h => h) (Or.inl ⟨by rfl, ?_⟩) hS0 ?_
    · intro w hSw
      have z0 := hSw.1
      go_simp
    simp only [Act.put, List.setIfInBounds_toArray, List.set_cons_zero, List.set_cons_succ]
    refine wpAnyH_take (i := 2) (oi := { dst := some 5, op := .fieldAddr 87 (.tmp 1) 1, type := _, pos := _, after := _, guard := none }) (v := .pointer (some ⟨w.heap.size, 1, none⟩)) rfl (by kernel_rfl) (by kernel_rfl) (by kernel_rfl) (fun _ _ _ h => h) (Or.inl ⟨by rfl, ?_⟩) hS0 ?_
    · intro w hSw
      go_simp
    simp only [Act.put, List.setIfInBounds_toArray, List.set_cons_zero, List.set_cons_succ]
    refine wpAnyH_take (i := 3) (oi := { dst := some 6, op := .load 9 (.tmp 5), type := _, pos := _, after := _, guard := none }) (v := .string nm) rfl (by kernel_rfl) (by kernel_rfl) (by kernel_rfl) (fun _ _ _ h => h) (Or.inl ⟨by rfl, ?_⟩) hS0 ?_
    · intro w hSw
      have z0 := hSw.2.1
      go_simp
    simp only [Act.put, List.setIfInBounds_toArray, List.set_cons_zero, List.set_cons_succ]
    refine wpAnyH_take (i := 5) (oi := { dst := some 8, op := .fieldAddr 87 (.tmp 1) 2, type := _, pos := _, after := _, guard := none }) (v := .pointer (some ⟨w.heap.size, 2, none⟩)) rfl (by kernel_rfl) (by kernel_rfl) (by kernel_rfl) (fun _ _ _ h => h) (Or.inl ⟨by rfl, ?_⟩) hS0 ?_
    · intro w hSw
      go_simp
    simp only [Act.put, List.setIfInBounds_toArray, List.set_cons_zero, List.set_cons_succ]
    refine wpAnyH_take (i := 6) (oi := { dst := some 9, op := .load 34 (.tmp 8), type := _, pos := _, after := _, guard := none }) (v := .agg #[.int .u8 (op : Int), .int .u8 (t : Int), .int .u64 (b : Int), .string enm, .slice ea en ec]) rfl (by kernel_rfl) (by kernel_rfl) (by kernel_rfl) (fun _ _ _ h => h) (Or.inl ⟨by rfl, ?_⟩) hS0 ?_
    · intro w hSw
      have z0 := hSw.2.2.1
      have z1 := hSw.2.2.2.1
      have z2 := hSw.2.2.2.2.1
      have z3 := hSw.2.2.2.2.2.1
      have z4 := hSw.2.2.2.2.2.2.1
      go_simp
    simp only [Act.put, List.setIfInBounds_toArray, List.set_cons_zero, List.set_cons_succ]
    refine wpAnyH_take (i := 8) (oi := { dst := some 11, op := .fieldAddr 87 (.tmp 1) 3, type := _, pos := _, after := _, guard := none }) (v := .pointer (some ⟨w.heap.size, 7, none⟩)) rfl (by kernel_rfl) (by kernel_rfl) (by kernel_rfl) (fun _ _ _ h => h) (Or.inl ⟨by rfl, ?_⟩) hS0 ?_
    · intro w hSw
      go_simp
    simp only [Act.put, List.setIfInBounds_toArray, List.set_cons_zero, List.set_cons_succ]
    refine wpAnyH_take (i := 9) (oi := { dst := some 12, op := .load 57 (.tmp 11), type := _, pos := _, after := _, guard := none }) (v := .slice a1 n1 c1) rfl (by kernel_rfl) (by kernel_rfl) (by kernel_rfl) (fun _ _ _ h => h) (Or.inl ⟨by rfl, ?_⟩) hS0 ?_
    · intro w hSw
      have z0 := hSw.2.2.2.2.2.2.2.1
      go_simp
    simp only [Act.put, List.setIfInBounds_toArray, List.set_cons_zero, List.set_cons_succ]
    refine wpAnyH_take (i := 11) (oi := { dst := some 14, op := .fieldAddr 87 (.tmp 1) 4, type := _, pos := _, after := _, guard := none }) (v := .pointer (some ⟨w.heap.size, 8, none⟩)) rfl (by kernel_rfl) (by kernel_rfl) (by kernel_rfl) (fun _ _ _ h => h) (Or.inl ⟨by rfl, ?_⟩) hS0 ?_
    · intro w hSw
      go_simp
    simp only [Act.put, List.setIfInBounds_toArray, List.set_cons_zero, List.set_cons_succ]
    refine wpAnyH_take (i := 12) (oi := { dst := some 15, op := .load 57 (.tmp 14), type := _, pos := _, after := _, guard := none }) (v := .slice a2 n2 c2) rfl (by kernel_rfl) (by kernel_rfl) (by kernel_rfl) (fun _ _ _ h => h) (Or.inl ⟨by rfl, ?_⟩) hS0 ?_
    · intro w hSw
      have z0 := hSw.2.2.2.2.2.2.2.2
      go_simp
    simp only [Act.put, List.setIfInBounds_toArray, List.set_cons_zero, List.set_cons_succ]
    refine wpAnyH_ready (rs := [4]) (by kernel_rfl) (by simp) ?_
    refine AllReadyH.cons (o := { dst := some 7, op := .call { callee := .value (.func 59), args := #[.tmp 6], argTypes := #[9] }, type := _, pos := _, after := _, guard := none }) rfl (fun K hK => ?_) AllReadyH.nil
    rw [if_pos (by rfl)]
    go_wp2_with (go_at_call 59; refine (hC _ (Below.refl _ _)).mono ?_; rintro e x1 ⟨rfl, hb1⟩)
    have hB1 := hB0.trans (hb1.mono hB0.size)
    have hS1 := HK.out x1 hB1
    refine hK.out _ _ hS1 (fun _ => ?_)
    refine wpAnyH_ready (rs := [7]) (by kernel_rfl) (by simp) ?_
    refine AllReadyH.cons (o := { dst := some 10, op := .call { callee := .value (.func 118), args := #[.tmp 9], argTypes := #[34] }, type := _, pos := _, after := _, guard := none }) rfl (fun K hK => ?_) AllReadyH.nil
    rw [if_pos (by rfl)]
    go_wp2_with (go_at_call 118; refine (HE.out _ hB1).mono ?_; rintro e x2 ⟨⟨yop, yt, yb, ynm, ya, yc, yk⟩, rfl, hye, hyi, hyu, hb2⟩)
    have hB2 := hB1.trans (hb2.mono hB1.size)
    have hS2 := HK.out x2 hB2
    refine hK.out _ _ hS2 (fun _ => ?_)
    refine wpAnyH_ready (rs := [10]) (by kernel_rfl) (by simp) ?_
    refine AllReadyH.cons (o := { dst := some 13, op := .call { callee := .value (.func 92), args := #[.tmp 12, .func 93], argTypes := #[57, 123] }, type := _, pos := _, after := _, guard := none }) rfl (fun K hK => ?_) AllReadyH.nil
    rw [if_pos (by rfl)]
    go_wp2_with (go_at_call 92; refine (H1.out _ hB2).mono ?_; rintro e x3 ⟨d1, e1, ys1, rfl, hm1, hr1, ha1, hu1, hb3⟩)
    have hB3 := hB2.trans (hb3.mono hB2.size)
    have hS3 := HK.out x3 hB3
    refine hK.out _ _ hS3 (fun _ => ?_)
    refine wpAnyH_ready (rs := [13]) (by kernel_rfl) (by simp) ?_
    refine AllReadyH.cons (o := { dst := some 16, op := .call { callee := .value (.func 92), args := #[.tmp 15, .func 93], argTypes := #[57, 123] }, type := _, pos := _, after := _, guard := none }) rfl (fun K hK => ?_) AllReadyH.nil
    rw [if_pos (by rfl)]
    go_wp2_with (go_at_call 92; refine (H2.out _ hB3).mono ?_; rintro e x4 ⟨d2, e2, ys2, rfl, hm2, hr2, ha2, hu2, hb4⟩)
    have hB4 := hB3.trans (hb4.mono hB3.size)
    have hS4 := HK.out x4 hB4
    refine hK.out _ _ hS4 (fun _ => ?_)
    refine wpAnyH_take (i := 14) (oi := { dst := some 17, op := .build 87 #[(0, .tmp 4), (1, .tmp 7), (2, .tmp 10), (3, .tmp 13), (4, .tmp 16)], type := _, pos := _, after := _, guard := none }) (v := .agg ((st9 k nm (ex5 yop yt yb ynm (.slice ya yk.length yc)) (.slice d1 ys1.length e1) (.slice d2 ys2.length e2))).toArray) rfl (by kernel_rfl) (by kernel_rfl) (by kernel_rfl) (fun _ _ _ h => h) (Or.inl ⟨by rfl, ?_⟩) hS4 ?_
    · intro w hSw
      go_simp
      rfl
    simp only [Act.put, List.setIfInBounds_toArray, List.set_cons_zero, List.set_cons_succ]
    refine wpAnyH_ready (rs := [15]) (by kernel_rfl) (by simp) ?_
    refine AllReadyH.cons (o := { dst := none, op := .store 87 (.tmp 2) (.tmp 17), type := _, pos := _, after := _, guard := none }) rfl (fun K hK => ?_) AllReadyH.nil
    rw [if_pos (by rfl)]
    have hAr := hA2.below hB4
    refine wp_store_mid (P := Tryz.prog) 87 (.tmp 2) (.tmp 17) rfl w1.heap.size 0 ((st9 k nm (ex5 yop yt yb ynm (.slice ya yk.length yc)) (.slice d1 ys1.length e1) (.slice d2 ys2.length e2))).toArray rfl rfl (hAr.there 0 _ (Nat.le_refl _)) i38 (all_oneCell_toArray (st9_one k nm yop yt yb ynm ya yk.length yc d1 ys1.length e1 d2 ys2.length e2)) ?_
    refine hK.out _ _ (HK'.out x4 hB4 _) (fun _ => ?_)
    refine wpAnyH_done (by kernel_rfl) ?_ _
    have hAf : At 87 (x4.setCells w1.heap.size 0 (st9 k nm (ex5 yop yt yb ynm (.slice ya yk.length yc)) (.slice d1 ys1.length e1) (.slice d2 ys2.length e2))) w1.heap.size (st9 k nm (ex5 yop yt yb ynm (.slice ya yk.length yc)) (.slice d1 ys1.length e1) (.slice d2 ys2.length e2)) := At.setCells _ 0 _ _ hAr
    have hw04 : Below w.heap.size w x4 := hbw.trans (hB4.mono hbw.size)
    have hBut : But w1.heap.size x4 (x4.setCells w1.heap.size 0 (st9 k nm (ex5 yop yt yb ynm (.slice ya yk.length yc)) (.slice d1 ys1.length e1) (.slice d2 ys2.length e2))) := But.setCells _ 0 _ (But.refl _ _)
    have hBf : Below w.heap.size w (x4.setCells w1.heap.size 0 (st9 k nm (ex5 yop yt yb ynm (.slice ya yk.length yc)) (.slice d1 ys1.length e1) (.slice d2 ys2.length e2))) := hBut.below hw04 (by omega) (by have := hw04.size; omega)
    have hszf := size_setCells w1.heap.size (st9 k nm (ex5 yop yt yb ynm (.slice ya yk.length yc)) (.slice d1 ys1.length e1) (.slice d2 ys2.length e2)) 0 x4
    have hl1 : w1.heap.size < x1.heap.size := (hA2.below hB1).lt
    have HF : Hid (∃ y : ST, Value.agg ((st9 k nm (ex5 yop yt yb ynm (.slice ya yk.length yc)) (.slice d1 ys1.length e1) (.slice d2 ys2.length e2))).toArray = .agg y.cells.toArray ∧ y.st = (ST.mk k nm (.mk op t b enm ea ec eks) a1 c1 b1 a2 c2 b2).st ∧ y.In (x4.setCells w1.heap.size 0 (st9 k nm (ex5 yop yt yb ynm (.slice ya yk.length yc)) (.slice d1 ys1.length e1) (.slice d2 ys2.length e2))).heap.size (x4.setCells w1.heap.size 0 (st9 k nm (ex5 yop yt yb ynm (.slice ya yk.length yc)) (.slice d1 ys1.length e1) (.slice d2 ys2.length e2))) ∧ y.Lies (Fr w.heap.size (x4.setCells w1.heap.size 0 (st9 k nm (ex5 yop yt yb ynm (.slice ya yk.length yc)) (.slice d1 ys1.length e1) (.slice d2 ys2.length e2))))) := by
      have hl2 := hb2.size
      have hl3 := hb3.size
      have hl4 := hb4.size
      have hlw := (hbw.trans (hB1.mono hbw.size)).size
      have zy := ET.keepF (A := x1.heap.size) (w' := x4) (fun k _ h2 => by rw [hb4.block k (by omega), hb3.block k h2]) hyi hyu
      have z1 := RowS.keepF (A := x2.heap.size) (w' := x4) (fun k _ h2 => hb4.block k h2) hr1 ha1 hu1
      have hU : (ST.mk k nm (.mk yop yt yb ynm ya yc yk) d1 e1 ys1 d2 e2 ys2).Lies (Fr x1.heap.size x4) := by
        unfold ST.Lies
        exact ⟨zy.2, ⟨at_frm hl2 z1.1, z1.2.1.mono fun k q => q.mono hl2⟩, at_frm (by omega) ha2, hu2.mono fun k q => q.mono (by omega)⟩
      refine ⟨.mk k nm (.mk yop yt yb ynm ya yc yk) d1 e1 ys1 d2 e2 ys2, rfl, ?_, ?_⟩
      · show St.mk k nm.data.toList (ET.mk yop yt yb ynm ya yc yk).ex (ST.sts ys1) (ST.sts ys2) = St.mk k nm.data.toList (ET.mk op t b enm ea ec eks).ex (ST.sts b1) (ST.sts b2)
        rw [ST.sts_eq, ST.sts_eq, ST.sts_eq, ST.sts_eq, hm1, hm2, hye]
      · rw [hszf]
        have hI : (ST.mk k nm (.mk yop yt yb ynm ya yc yk) d1 e1 ys1 d2 e2 ys2).In x4.heap.size x4 := by
          unfold ST.In
          have h24 : Old x2.heap.size x2 x4 := Old.of_below (hb3.trans (hb4.mono hl3)) (Nat.le_refl _)
          exact ⟨HI.out, (hyi.old h24).up (by omega), (hr1.old (Old.of_below hb4 (Nat.le_refl _))).up hl4, hr2⟩
        have z := ST.keepF (A := x1.heap.size) (w' := (x4.setCells w1.heap.size 0 (st9 k nm (ex5 yop yt yb ynm (.slice ya yk.length yc)) (.slice d1 ys1.length e1) (.slice d2 ys2.length e2)))) (fun k h1 h2 => hBut.block k (by omega) (by omega)) hI hU
        exact ⟨z.1, z.2.mono fun k q => q.mono hlw⟩
    clear HE H1 H2 HK HK' hA2 hAr hye hyi hyu hm1 hr1 ha1 hu1 hm2 hr2 ha2 hu2 HI hBut
    go_wp2
    refine bodyPost_ret (results_at rfl _ _ w1.heap.size 87 (st9 k nm (ex5 yop yt yb ynm (.slice ya yk.length yc)) (.slice d1 ys1.length e1) (.slice d2 ys2.length e2)) _ rfl hAf Tryz.underlying87 rfl i38) rfl ?_
    obtain ⟨y, e1, e2, e3, e4⟩ := HF.out
    exact ⟨y, congrArg Ending.returned e1, e2, e3, e4, hBf⟩
  have hcl : (ST.mk k nm (.mk op t b enm ea ec eks) a1 c1 b1 a2 c2 b2).cells = st9 k nm (ex5 op t b enm (.slice ea en ec)) (.slice a1 n1 c1) (.slice a2 n2 c2) := by
    rw [hen.out, hn1.out, hn2.out]
    rfl
  rw [hcl]
  exact hgo

theorem soStmt_any (B : Nat) (M : Nat) : ∀ x : ST, SizeOf.sizeOf x < M → stW x.st ≤ 281474976710656 → SoSW B x := by
  induction M with
  | zero => intro x h; omega
  | succ M ih =>
    rintro ⟨k, nm, ⟨op, t, b, enm, ea, ec, eks⟩, a1, c1, b1, a2, c2, b2⟩ hN hW
    have e : (ST.mk k nm (.mk op t b enm ea ec eks) a1 c1 b1 a2 c2 b2).st = .mk k nm.data.toList (ET.mk op t b enm ea ec eks).ex (ST.sts b1) (ST.sts b2) := rfl
    rw [e, stW] at hW
    refine soStmt_of B k nm op t b enm ea ec eks a1 c1 b1 a2 c2 b2 ?_ (soExpr_any B _ _ (Nat.lt_succ_self _) (by omega)) (fun s hs => ih s ?_ ?_) (fun s hs => ih s ?_ ?_)
    · have e2 : nm.size = nm.data.toList.length := by rw [Array.length_toList]; rfl
      omega
    · have := ST.sz1 (k := k) (nm := nm) (e := .mk op t b enm ea ec eks) (a1 := a1) (a2 := a2) (c1 := c1) (c2 := c2) (els := b2) hs
      omega
    · have := stWs_mem (ST.sts b1) s.st (by rw [ST.sts_eq]; exact List.mem_map_of_mem hs)
      omega
    · have := ST.sz2 (k := k) (nm := nm) (e := .mk op t b enm ea ec eks) (a1 := a1) (a2 := a2) (c1 := c1) (c2 := c2) (body := b1) hs
      omega
    · have := stWs_mem (ST.sts b2) s.st (by rw [ST.sts_eq]; exact List.mem_map_of_mem hs)
      omega

end Go.Proofs.YtcmahiphfpgadaaGreatDoor

/- Rows are copied into blocks that may be written. -/
namespace Go.Proofs.YtcmahiphfpgadaaGreatDoor
open Go.RowKit
set_option linter.unusedVariables false

/-- What copying does. -/
def SoTW (B : Nat) (x : TT) : Prop := ∀ w, x.In B w → B ≤ w.heap.size → Calls Tryz.prog 61 #[.agg x.cells.toArray] w fun r w' => ∃ y : TT, r = .returned (.agg y.cells.toArray) ∧ y.th = x.th ∧ y.In w'.heap.size w' ∧ y.Lies (Fr w.heap.size w') ∧ Below w.heap.size w w'

set_option maxRecDepth 100000 in
set_option maxHeartbeats 3200000 in
theorem softT_of (B : Nat) (xs : List TT) (hS : ∀ x ∈ xs, SoTW B x) (a : Option Addr) (c : Nat) (w : World) (h : RowT B w a c xs) (hBw : B ≤ w.heap.size) :
    Calls Tryz.prog 60 #[.slice a xs.length c, .func (.func 61) #[] #[]] w fun r w' => ∃ (a' : Option Addr) (c' : Nat) (ys : List TT), r = .returned (.slice a' ys.length c') ∧ ys.map TT.th = xs.map TT.th ∧ RowT w'.heap.size w' a' c' ys ∧ (ys = [] ∨ ∃ g o, a' = some ⟨g, o, none⟩ ∧ Fr w.heap.size w' g) ∧ TT.LiesL (Fr w.heap.size w') ys ∧ Below w.heap.size w w' := by
  obtain ⟨n, hn⟩ : ∃ n, Hid (n = xs.length) := ⟨_, (rfl : xs.length = _)⟩
  have hl := h.1
  have hk := h.2.1
  rw [← hn.out] at hl hk ⊢
  have HS : Hid (∀ x ∈ xs, SoTW B x) := hS
  have HR : Hid (RowT B w a c xs) := h
  clear hS h
  cases a with
  | none =>
    have hx : Hid (xs = []) := by
      obtain ⟨_, _, h | ⟨g, o, h, _⟩⟩ := HR.out
      · exact h
      · cases h
    clear HR HS
    have hnil := fun u => Lib.run_eql_slice_nil (P := Tryz.prog) u 24 59 none n c 0 0 Tryz.underlying24
    go_enter Tryz.func60, Tryz.ntmps60
    go_wp2_with fail
    go_ret
    exact ⟨none, 0, [], rfl, by rw [hx.out], ⟨by simp, by simp, .inl rfl⟩, .inl rfl, TT.LiesL.of (fun e he => by cases he), Below.refl _ _⟩
  | some ad =>
    have hnil := fun u => Lib.run_eql_slice_nil (P := Tryz.prog) u 24 59 (some ad) n c 0 0 Tryz.underlying24
    go_enter Tryz.func60, Tryz.ntmps60
    go_wp2_with (first
      | ((with_reducible show wpList _ _ _ _ _ _); refine wpList_make_soft (P := Tryz.prog) rfl (.tmp 11) (.tmp 11) 24 rfl 59 _ 3 64 Tryz.underlying24 f59 n rfl rfl (by omega) (by omega) ?_; intro w1 ht1 hb1 hs1; refine Hid.out ?_))
    refine hidU ?_
    have H1 : Hid ((w1.there w.heap.size 0 (n * 3) ∧ Soft w1 w.heap.size) ∧ Below w.heap.size w w1 ∧ w.heap.size < w1.heap.size) := ⟨ht1, hb1, hs1⟩
    clear ht1 hb1 hs1
    go_wp2_with fail
    go_loopw [15] (fun j wr => ∃ i : Nat, j = .int .i64 (i : Int) ∧ i ≤ n ∧ Hid (∃ ys : List TT, ys.length = i ∧ ys.map TT.th = (xs.take i).map TT.th ∧ Below w.heap.size w wr ∧ (wr.there w.heap.size 0 (n * 3) ∧ Soft wr w.heap.size) ∧ w.heap.size < wr.heap.size ∧ ∀ (q : Nat) (y : TT), ys[q]? = some y → wr.rangeAt w.heap.size (q * 3) y.cells ∧ y.In wr.heap.size wr ∧ y.Lies (Fr (w.heap.size + 1) wr))) (fun j _ => n - (intOf j).toNat)
    case atStart => exact ⟨0, rfl, by omega, [], rfl, rfl, H1.out.2.1, H1.out.1, H1.out.2.2, fun q y h => by simp at h⟩
    case round =>
      clear H1
      obtain ⟨i, rfl, hi, hX⟩ := hrel
      by_cases hc : i < n
      · obtain ⟨x, hx⟩ : ∃ k, xs[i]? = some k := ⟨xs[i]'(by rw [← hn.out]; exact hc), by rw [List.getElem?_eq_getElem]⟩
        obtain ⟨ys, hyl, hym, hbw, hth, hlt, hall⟩ := hX.out
        have hold : Old B w wr := Old.of_below hbw hBw
        obtain ⟨g1, o1, had, hg1, hr1, hx1⟩ := (HR.out.old hold).at i x hx
        cases had
        have HY : Hid (ys.length = i ∧ ys.map TT.th = (xs.take i).map TT.th ∧ Below w.heap.size w wr ∧ (wr.there w.heap.size 0 (n * 3) ∧ Soft wr w.heap.size) ∧ ∀ (q : Nat) (y : TT), ys[q]? = some y → wr.rangeAt w.heap.size (q * 3) y.cells ∧ y.In wr.heap.size wr ∧ y.Lies (Fr (w.heap.size + 1) wr)) := ⟨hyl, hym, hbw, hth, hall⟩
        have HK : Hid (x.In B wr ∧ B ≤ wr.heap.size) := ⟨hx1, by have := hbw.size; omega⟩
        have HTK : Hid ((xs.take (i + 1)).map TT.th = (xs.take i).map TT.th ++ [x.th]) := by
          show _ = _
          rw [List.take_add_one, hx]
          simp
        have hIx := HS.out x (List.mem_of_getElem? hx)
        have HI : Hid (∀ w, x.In B w → B ≤ w.heap.size → Calls Tryz.prog 61 #[.agg x.cells.toArray] w fun r w' => ∃ y : TT, r = .returned (.agg y.cells.toArray) ∧ y.th = x.th ∧ y.In w'.heap.size w' ∧ y.Lies (Fr w.heap.size w') ∧ Below w.heap.size w w') := hIx
        clear hX hyl hym hbw hth hall hold hx1 HR HS hIx
        go_wp2_with (first
          | ((with_reducible show wpList _ _ _ _ _ _); refine wpList_load_mid (P := Tryz.prog) rfl 59 (.tmp 18) rfl g1 (o1 + i * 3) (by first | rfl | (simp; done)) x.cells _ hr1 Tryz.underlying59 rfl i42 ?_)
          | ((with_reducible show wpList _ _ _ _ _ _); refine wpList_alloc_at rfl 59 rfl _ 3 z42 ?_; intro w2 hA2 hb2 hs2)
          | ((with_reducible show wpList _ _ _ _ _ _); refine wpList_store_at (P := Tryz.prog) rfl 59 (.tmp 7) (.tmp 19) rfl wr.heap.size x.cells rfl rfl 59 _ hA2 i42 rfl x.one ?_; intro w3 hA3 hb3 hs3; refine Hid.out ?_))
        refine hidU ?_
        have hB3 : Below wr.heap.size wr w3 := hb3.below hb2 (Nat.le_refl _) (by omega)
        have hC := HI.out w3 (HK.out.1.old (Old.of_below hB3 HK.out.2)) (by have := hB3.size; have := HK.out.2; omega)
        have H3 : Hid (Below wr.heap.size wr w3) := hB3
        clear hb3 hb2 hA2 hr1 hs2 hs3 HI HK hB3
        go_wp2_with (first
          | ((with_reducible show wpList _ _ _ _ _ _); refine wpList_load_at (P := Tryz.prog) rfl 59 (.tmp 7) rfl wr.heap.size rfl 59 x.cells hA3 _ Tryz.underlying59 rfl i42 ?_))
        refine hC.mono ?_
        rintro r w4 ⟨y, rfl, hye, hyi, hyu, hb4⟩
        have hw4 : Below wr.heap.size wr w4 := H3.out.trans (hb4.mono H3.out.size)
        have hht : w4.there w.heap.size (i * 3) y.cells.toArray.size := by
          intro j hj
          have hlen : y.cells.toArray.size = 3 := by simp [TT.cells]
          rw [hlen] at hj
          have hin : i * 3 + j < n * 3 := by
            have : (i + 1) * 3 ≤ n * 3 := Nat.mul_le_mul_right _ (by omega)
            omega
          have h0 := HY.out.2.2.2.1.1 (i * 3 + j) hin
          rw [Nat.zero_add] at h0
          rw [World.cell?_of_block (w := wr) (w' := w4) (hw4.block _ hlt), World.frozen?_of_block (w := wr) (w' := w4) (hw4.block _ hlt)]
          exact h0
        clear hC hA3
        go_wp2_with (first
          | ((with_reducible show wpList _ _ _ _ _ _); refine wpList_store_mid (P := Tryz.prog) rfl 59 (.tmp 25) (.tmp 24) rfl w.heap.size (i * 3) y.cells.toArray (by first | rfl | (simp; done)) rfl hht (by rw [show y.cells.toArray.size = 3 by simp [TT.cells]]; exact i42) (all_oneCell_toArray y.one) ?_; refine Hid.out ?_))
        refine hidU ?_
        have hlen : y.cells.length = 3 := by simp [TT.cells]
        have HF : Hid (∃ ys : List TT, ys.length = i + 1 ∧ ys.map TT.th = (xs.take (i + 1)).map TT.th ∧ Below w.heap.size w (w4.setCells w.heap.size (i * 3) y.cells.toArray.toList) ∧ ((w4.setCells w.heap.size (i * 3) y.cells.toArray.toList).there w.heap.size 0 (n * 3) ∧ Soft (w4.setCells w.heap.size (i * 3) y.cells.toArray.toList) w.heap.size) ∧ w.heap.size < (w4.setCells w.heap.size (i * 3) y.cells.toArray.toList).heap.size ∧ ∀ (q : Nat) (y' : TT), ys[q]? = some y' → (w4.setCells w.heap.size (i * 3) y.cells.toArray.toList).rangeAt w.heap.size (q * 3) y'.cells ∧ y'.In (w4.setCells w.heap.size (i * 3) y.cells.toArray.toList).heap.size (w4.setCells w.heap.size (i * 3) y.cells.toArray.toList) ∧ y'.Lies (Fr (w.heap.size + 1) (w4.setCells w.heap.size (i * 3) y.cells.toArray.toList))) := by
          obtain ⟨hyl, hym, hbw, hth, hall⟩ := HY.out
          have hsz := size_setCells w.heap.size y.cells.toArray.toList (i * 3) w4
          have hBut : But w.heap.size w4 (w4.setCells w.heap.size (i * 3) y.cells.toArray.toList) := But.setCells _ _ _ (But.refl _ _)
          have hw04 : Below w.heap.size w w4 := hbw.trans (hw4.mono hbw.size)
          have hs4 : wr.heap.size ≤ w4.heap.size := hw4.size
          have hs34 : w3.heap.size ≤ w4.heap.size := hb4.size
          have hs3 : wr.heap.size ≤ w3.heap.size := H3.out.size
          have hMid : ∀ C, C ≤ w4.heap.size → Mid (w.heap.size + 1) C w4 (w4.setCells w.heap.size (i * 3) y.cells.toArray.toList) := fun C hC k h1 h2 => hBut.block k (by omega) (by omega)
          refine ⟨ys ++ [y], by simp [hyl], by rw [List.map_append, hym, HTK.out]; simp [hye], hBut.below hw04 (Nat.le_refl _) (by omega), ?_, by omega, ?_⟩
          · refine ⟨World.there_setCells ?_ _ _ _, Soft.setCells _ _ _ _ (hth.2.keep (hw4.block _ hlt))⟩
            intro j hj
            rw [World.cell?_of_block (w := wr) (w' := w4) (hw4.block _ hlt), World.frozen?_of_block (w := wr) (w' := w4) (hw4.block _ hlt)]
            exact hth.1 j hj
          · intro q y' hq
            rw [hsz]
            by_cases hqi : q < i
            · rw [List.getElem?_append_left (by omega)] at hq
              obtain ⟨r1, r2, r3⟩ := hall q y' hq
              have hl' : y'.cells.length = 3 := by simp [TT.cells]
              have z0 := TT.keepF (A := w.heap.size + 1) (fun k _ h2 => hw4.block k h2) r2 r3
              have z := TT.keepF (hMid _ (Nat.le_refl _)) (z0.1.up hs4) z0.2
              refine ⟨World.rangeAt_setCells_apart (fun j v hj => ?_) _ _ _ (.inr (.inl ?_)), z.1, z.2⟩
              · rw [World.cell?_of_block (w := wr) (w' := w4) (hw4.block _ hlt)]
                exact r1 j v hj
              · rw [hl']
                have : (q + 1) * 3 ≤ i * 3 := Nat.mul_le_mul_right _ (by omega)
                omega
            · rw [List.getElem?_append_right (by omega), hyl] at hq
              have hqe : q = i := by
                have := (List.getElem?_eq_some_iff.1 hq).1
                simp at this
                omega
              subst hqe
              simp at hq
              subst hq
              have z := TT.keepF (hMid _ (Nat.le_refl _)) hyi (hyu.mono (fun k q => q.mono (show w.heap.size + 1 ≤ w3.heap.size by omega)))
              refine ⟨?_, z.1, z.2⟩
              have h0 := World.rangeAt_setCells_same w4 w.heap.size (q * 3) y.cells.toArray.toList (by simpa using hht)
              simpa using h0
        clear HY HTK H3 hye hyi hyu hb4 hw4 hht hlen
        go_wp2
        go_roundw
        case rel => exact ⟨i + 1, by go_num, by omega, HF⟩
        case measure => simp [intOf]; omega
      · have hin : i = n := by omega
        have HY : Hid (∃ (a' : Option Addr) (c' : Nat) (ys : List TT), Value.slice (some ⟨w.heap.size, 0, none⟩) n n = .slice a' ys.length c' ∧ ys.map TT.th = xs.map TT.th ∧ RowT wr.heap.size wr a' c' ys ∧ (ys = [] ∨ ∃ g o, a' = some ⟨g, o, none⟩ ∧ Fr w.heap.size wr g) ∧ TT.LiesL (Fr w.heap.size wr) ys ∧ Below w.heap.size w wr) := by
          obtain ⟨ys, hyl, hym, hbw, hth, hlt, hall⟩ := hX.out
          rw [hin, hn.out, List.take_length] at hym
          rw [hin] at hyl
          exact ⟨_, n, ys, by rw [hyl], hym, RowT.of (by omega) (by omega) hlt (fun q y hy => ⟨(hall q y hy).1, (hall q y hy).2.1⟩), .inr ⟨_, _, rfl, Nat.le_refl _, hth.2⟩, TT.LiesL.of (fun y hy => by
            obtain ⟨q, hq⟩ := List.mem_iff_getElem?.1 hy
            exact (hall q y hq).2.2.mono (fun k q => q.mono (by omega))), hbw⟩
        clear hX hin HR HS
        go_wp2
        go_ret
        obtain ⟨a', c', ys, e1, e2⟩ := HY.out
        exact ⟨a', c', ys, by rw [← e1]; rfl, e2⟩

end Go.Proofs.YtcmahiphfpgadaaGreatDoor
