/- DigestScript, walked. -/
import Derived.Test.YtbigkblkfnnfkaaDoorScript
namespace Go.Proofs.YtbigkblkfnnfkaaDoor
open Go.RowKit
set_option linter.unusedVariables false

set_option maxRecDepth 100000 in
set_option maxHeartbeats 3200000 in
theorem script_walk (a : Option Addr) (cap : Nat) (xs : List (Nat × List UInt8)) (w : World) (hrow : ActRow w a xs) (hR : Roots w) (hx40 : xs.length ≤ 40) :
    Calls Tryd.prog 6 #[.slice a xs.length cap] w fun e w' => e = .returned (.bool true) ∧ Below w.heap.size w w' := by
  go_enter Tryd.func6, Tryd.ntmps6
  go_wp2_with fail
  refine (new_any _).mono ?_
  rintro e w1 ⟨g0, rfl, hg0, hH0, hb1⟩
  go_wp2_with fail
  refine (new_any _).mono ?_
  rintro e w2 ⟨g1, rfl, hg1, hH1, hb2⟩
  have hlt0 := hH0.lt
  have hlt1 := hH1.lt
  have hz2 := hb2.size
  have hz1 := hb1.size
  have hin : Sc w w2.heap.size (w2.heap.size + 1) ((w2.alloc (.cells #[P0 g0, P0 g1] 44)).alloc (.cells #[.slice none 0 0, .slice none 0 0] 22)) 0 g0 g1 none none 0 0 [] [] [] := by
    have q1 : Below w2.heap.size w2 (w2.alloc (.cells #[P0 g0, P0 g1] 44)) := (Below.refl _ w2).alloc (Nat.le_refl _) _
    have q2 : Below w2.heap.size w2 ((w2.alloc (.cells #[P0 g0, P0 g1] 44)).alloc (.cells #[.slice none 0 0, .slice none 0 0] 22)) := q1.alloc (by simp) _
    have q3 : At 44 (w2.alloc (.cells #[P0 g0, P0 g1] 44)) w2.heap.size [P0 g0, P0 g1] := _root_.Go.heap_alloc_new w2 _
    have q4 : Below (w2.alloc (.cells #[P0 g0, P0 g1] 44)).heap.size (w2.alloc (.cells #[P0 g0, P0 g1] 44)) ((w2.alloc (.cells #[P0 g0, P0 g1] 44)).alloc (.cells #[.slice none 0 0, .slice none 0 0] 22)) := (Below.refl _ _).alloc (Nat.le_refl _) _
    refine { hh := q3.below q4, hm := ?_, h1 := (hH0.below' hb2).below' q2, h2 := hH1.below' q2, r1 := .inl rfl, r2 := .inl rfl, n1 := fun _ => rfl, n2 := fun _ => rfl, l1 := Nat.le_refl _, l2 := Nat.le_refl _, d1 := (fun b off e => by cases e), d2 := (fun b off e => by cases e), e1 := by omega, e2 := by omega, e3 := by omega, e4 := by omega, e5 := by omega, e6 := by omega, b1 := by omega, b2 := by omega, b3 := by omega, b4 := by omega, o1 := (fun b off e => by cases e), o2 := (fun b off e => by cases e), bel := (hb1.trans (hb2.mono hz1)).trans (q2.mono (by omega)) }
    have := _root_.Go.heap_alloc_new (w2.alloc (.cells #[P0 g0, P0 g1] 44)) (.cells #[.slice none 0 0, .slice none 0 0] 22)
    have e : (w2.alloc (.cells #[P0 g0, P0 g1] 44)).heap.size = w2.heap.size + 1 := by simp
    rw [e] at this
    exact this
  go_wp2
  obtain ⟨gh, hgh⟩ : ∃ gh, gh = w2.heap.size := ⟨_, rfl⟩
  obtain ⟨gm, hgm⟩ : ∃ gm, gm = w2.heap.size + 1 := ⟨_, rfl⟩
  obtain ⟨V, hV⟩ : ∃ V, V = (w2.alloc (.cells #[P0 g0, P0 g1] 44)).alloc (.cells #[.slice none 0 0, .slice none 0 0] 22) := ⟨_, rfl⟩
  rw [← hV] at hin ⊢
  rw [← hgm, ← hgh] at hin ⊢
  clear hH0 hH1 hb1 hb2 hg0 hg1 hlt0 hlt1 hz1 hz2 hgh hgm hV
  go_loopw [5, 6] (fun nn ii wr => ∃ (i now g g' : Nat) (a1 a2 : Option Addr) (c1 c2 : Nat) (m m' : List UInt8), i ≤ xs.length ∧ now ≤ 1 ∧ m.length ≤ 4000 * i ∧ m'.length ≤ 4000 * i ∧ nn = .int .i64 (now : Int) ∧ ii = .int .i64 (i : Int) ∧ Sc w gh gm wr now g g' a1 a2 c1 c2 m m' m) (fun _ ii _ => xs.length - (intOf ii).toNat)
  case atStart => exact ⟨0, 0, g0, g1, none, none, 0, 0, [], [], by omega, by omega, by simp, by simp, rfl, rfl, hin⟩
  case round =>
    obtain ⟨i, now, g, g', a1, a2, c1, c2, m, m', hi, hnow, hml, hml', rfl, rfl, hsc⟩ := hrel
    by_cases hlt : i < xs.length
    · rcases hrow with h0 | ⟨b, off, rfl, hc⟩
      · rw [h0] at hlt; simp at hlt
      · obtain ⟨hk, hcelA, fa, fc, hcelB, hBrow, hBcap, hBnil⟩ := hc i hlt
        have hcell0 := (hsc.bel.cell (lt_of_cell hcelA)).trans hcelA
        have hcell1 := (hsc.bel.cell (lt_of_cell hcelB)).trans hcelB
        clear hc hcelA hcelB
        obtain ⟨k, hkd⟩ : ∃ k, k = (xs.getD i (0, [])).1 := ⟨_, rfl⟩
        obtain ⟨B, hBd⟩ : ∃ B, B = (xs.getD i (0, [])).2 := ⟨_, rfl⟩
        rw [← hkd] at hk hcell0
        rw [← hBd] at hcell1 hBrow hBcap
        clear hkd hBd
        obtain ⟨nw, hnw⟩ : ∃ nw, nw = 1 - now := ⟨_, rfl⟩
        have HNW : Hid (nw = 1 - now) := hnw
        have hnw1 : nw ≤ 1 := by omega
        have hsub : (1 : Int) - (now : Int) = (nw : Int) := by omega
        clear hnw
        by_cases hB4 : B.length ≤ 4000
        · by_cases k0 : k = 0
          · have kb0 : ((k : Int) == 0) = true := by rw [beq_iff_eq]; omega
            clear k0
            go_wp2_with (first | ((with_reducible show wpList _ _ _ _ _ _); refine wpList_alloc_at rfl 48 rfl _ 2 z48 ?_; intro w3 hA3 hb3 hs3) | ((with_reducible show wpList _ _ _ _ _ _); refine wpList_store_at (P := Tryd.prog) rfl 48 (.tmp 7) (.tmp 25) rfl wr.heap.size [.int .u8 (k : Int), .slice fa B.length fc] rfl rfl 48 _ hA3 i48 rfl (by simp [Value.oneCell']) ?_; intro w4 hA4 hb4 hs4; have hsc4 := hsc.fresh hb3 hb4; have f0 : w4.cell? ⟨wr.heap.size, 0, none⟩ = some (.int .u8 (k : Int)) := hA4.cell 0; have f1 : w4.cell? ⟨wr.heap.size, 1, none⟩ = some (.slice fa B.length fc) := hA4.cell 1; have q1 := hsc4.ch hnow; have q3 := hsc4.cm hnow))
            obtain ⟨gi, hgi⟩ : ∃ gi, gi = w4.heap.size := ⟨_, rfl⟩
            obtain ⟨mm, hmm⟩ : ∃ mm, mm = m ++ B := ⟨_, rfl⟩
            have HMM : Hid (mm = m ++ B) := hmm
            have hmml : mm.length ≤ 4000 * (i + 1) := by rw [hmm, List.length_append]; omega
            clear hmm
            refine (lent_any fa fc B _ (hBrow.below hsc4.bel) (by omega)).mono ?_
            rintro e w5 ⟨rfl, hL5, hb5⟩
            rw [← hgi] at hL5 ⊢
            have hsc5 := hsc4.below hb5
            have z1 := hsc4.h1.lt
            have z2 := hsc4.h2.lt
            have z3 := hsc4.hh.lt
            have z4 := hsc4.hm.lt
            have z5 := hsc4.bel.size
            have z6 := hA4.lt
            have y1 := hsc.h1.lt
            have y2 := hsc.h2.lt
            have y3 := hsc.hh.lt
            have y4 := hsc.hm.lt
            have hpos := hR.pos
            have zb := hsc.b1
            have hoff1 : Off a1 [gi] := fun b off e hb => by have := hsc4.o1 b off e; simp at hb; omega
            have hoff2 : Off a2 [gi] := fun b off e hb => by have := hsc4.o2 b off e; simp at hb; omega
            have n1 : gi ≠ g := by omega
            have n2 : gi ≠ g' := by omega
            have n3 : gi ≠ gh := by omega
            have n4 : gi ≠ gm := by omega
            have n5 : wr.heap.size ≠ g := by omega
            have n6 : wr.heap.size ≠ gi := by omega
            have n7 : wr.heap.size ≠ gm := by omega
            have n8 : 0 < g := by omega
            have n9 : w.heap.size ≤ gi := by omega
            have hrow5 := lent_row hL5
            have hA5 := hA4.below hb5
            have q5 := hsc5.ch hnow
            have hbg : ∀ b off, some (⟨gi, 0, none⟩ : Addr) = some ⟨b, off, none⟩ → b ≠ g := fun b off h => by cases h; exact n1
            clear hs3 hs4 z1 z2 z3 z4 z5 z6 y1 y2 y3 y4 hpos zb hgi
            go_wp2_with (first | (go_at_call 24; refine (write_yes g (some ⟨gi, 0, none⟩) (B.length + 3) m B _ hsc5.h1 hrow5 hbg (by omega) (by omega) (hR.below hsc5.bel) n8).mono ?_; rintro e w6 ⟨rfl, hH6, hbut6⟩; rw [← HMM.out] at hH6; have hsc6 := hsc5.wrote hbut6 hH6; have hA6 := hbut6.at hA5 n5; have hL6 := hbut6.at (t := 5) hL5 n1; have f6 : w6.cell? ⟨wr.heap.size, 1, none⟩ = some (.slice fa B.length fc) := hA6.cell 1) | (go_at_call 12; refine (kept_any fa fc gi B _ (hBrow.below hsc6.bel) hL6 (by omega)).mono ?_; rintro e w7 ⟨rfl, hb7⟩; have hsc7 := hsc6.below hb7; have hA7 := hA6.below hb7; have hL7 := At.below hL6 hb7) | (go_at_call 25; refine (over_lent gi B _ hL7 hB4).mono ?_; rintro e w8 ⟨rfl, hbut8⟩; have hsc8 := hsc7.but hbut8 n1 n2 n3 n4 n9 hoff1 hoff2; have hA8 := hbut8.at hA7 n6))
            have f8 : w8.cell? ⟨wr.heap.size, 1, none⟩ = some (.slice fa B.length fc) := hA8.cell 1
            have q8 := hsc8.cm hnow
            have yb1 : (0 : Int) ≤ (now : Int) := by omega
            have yb2 : (now : Int) < 2 := by omega
            have hD8 := hsc8.drew
            have hA8d := hA8.drew
            have hmB : m.length + B.length ≤ 1099511627776 := by omega
            have s1 := hsc8.h1.lt
            have s2 := hsc8.h2.lt
            have s3 := hsc8.hh.lt
            have s4 := hsc8.hm.lt
            refine wp_region_held_drew (S := fun w' => w'.cell? ⟨wr.heap.size, 1, none⟩ = some (.slice fa B.length fc)) (by kernel_rfl) f8 (fun _ => ?_)
            refine wpAnyH_take (i := 0) (oi := { dst := some 58, op := .move (.tmp 4), type := _, pos := _, after := _, guard := none }) (v := (.slice (some ⟨gm, 0, none⟩) 2 2)) rfl (by kernel_rfl) (by kernel_rfl) (by kernel_rfl) (fun _ _ _ h => h) (Or.inl ⟨by rfl, ?_⟩) f8 ?_
            · intro w hSw
              try dsimp only at hSw
              go_simp
            simp only [Act.put, List.setIfInBounds_toArray, List.set_cons_zero, List.set_cons_succ]
            refine wpAnyH_take (i := 1) (oi := { dst := some 59, op := .move (.tmp 5), type := _, pos := _, after := _, guard := none }) (v := (.int .i64 (now : Int))) rfl (by kernel_rfl) (by kernel_rfl) (by kernel_rfl) (fun _ _ _ h => h) (Or.inl ⟨by rfl, ?_⟩) f8 ?_
            · intro w hSw
              try dsimp only at hSw
              go_simp
            simp only [Act.put, List.setIfInBounds_toArray, List.set_cons_zero, List.set_cons_succ]
            refine wpAnyH_take (i := 2) (oi := { dst := some 60, op := .move (.tmp 4), type := _, pos := _, after := _, guard := none }) (v := (.slice (some ⟨gm, 0, none⟩) 2 2)) rfl (by kernel_rfl) (by kernel_rfl) (by kernel_rfl) (fun _ _ _ h => h) (Or.inl ⟨by rfl, ?_⟩) f8 ?_
            · intro w hSw
              try dsimp only at hSw
              go_simp
            simp only [Act.put, List.setIfInBounds_toArray, List.set_cons_zero, List.set_cons_succ]
            refine wpAnyH_take (i := 3) (oi := { dst := some 61, op := .move (.tmp 5), type := _, pos := _, after := _, guard := none }) (v := (.int .i64 (now : Int))) rfl (by kernel_rfl) (by kernel_rfl) (by kernel_rfl) (fun _ _ _ h => h) (Or.inl ⟨by rfl, ?_⟩) f8 ?_
            · intro w hSw
              try dsimp only at hSw
              go_simp
            simp only [Act.put, List.setIfInBounds_toArray, List.set_cons_zero, List.set_cons_succ]
            refine wpAnyH_take (i := 4) (oi := { dst := some 62, op := .indexAddr 29 (.tmp 60) (.tmp 61), type := _, pos := _, after := _, guard := none }) (v := (.pointer (some ⟨gm, now, none⟩))) rfl (by kernel_rfl) (by kernel_rfl) (by kernel_rfl) (fun _ _ _ h => h) (Or.inl ⟨by rfl, ?_⟩) f8 ?_
            · intro w hSw
              try dsimp only at hSw
              go_simp
            simp only [Act.put, List.setIfInBounds_toArray, List.set_cons_zero, List.set_cons_succ]
            refine wpAnyH_take (i := 7) (oi := { dst := some 65, op := .fieldAddr 48 (.tmp 7) 1, type := _, pos := _, after := _, guard := none }) (v := (.pointer (some ⟨wr.heap.size, 1, none⟩))) rfl (by kernel_rfl) (by kernel_rfl) (by kernel_rfl) (fun _ _ _ h => h) (Or.inl ⟨by rfl, ?_⟩) f8 ?_
            · intro w hSw
              try dsimp only at hSw
              go_simp
            simp only [Act.put, List.setIfInBounds_toArray, List.set_cons_zero, List.set_cons_succ]
            refine wpAnyH_take (i := 8) (oi := { dst := some 66, op := .load 22 (.tmp 65), type := _, pos := _, after := _, guard := none }) (v := (.slice fa B.length fc)) rfl (by kernel_rfl) (by kernel_rfl) (by kernel_rfl) (fun _ _ _ h => h) (Or.inl ⟨by rfl, ?_⟩) f8 ?_
            · intro w hSw
              try dsimp only at hSw
              go_simp
            simp only [Act.put, List.setIfInBounds_toArray, List.set_cons_zero, List.set_cons_succ]
            refine wpAnyH_ready (rs := [5]) (by kernel_rfl) (by simp) ?_
            refine AllReadyH.cons (o := { dst := some 63, op := .load 22 (.tmp 62), type := _, pos := _, after := _, guard := none }) rfl (fun K hK => ?_) AllReadyH.nil
            go_simp
            refine hK.out _ _ f8 (fun _ => ?_)
            clear hK K
            try simp only [Act.put, List.setIfInBounds_toArray, List.set_cons_zero, List.set_cons_succ]
            refine wpAnyH_ready (rs := [6]) (by kernel_rfl) (by simp) ?_
            refine AllReadyH.cons (o := { dst := some 64, op := .call { callee := .value (.func 26), args := #[.tmp 63], argTypes := #[22] }, type := _, pos := _, after := _, guard := none }) rfl (fun K hK => ?_) AllReadyH.nil
            rw [if_pos (by rfl)]
            go_wp2_with (go_at_call 26; refine (copy_any a1 c1 m _ hD8.r1 hD8.n1 (by omega)).mono ?_; rintro e w9 ⟨v9, rfl, hown9, hb9⟩)
            have hsc9 := hD8.below hb9
            have f9 : w9.cell? ⟨wr.heap.size, 1, none⟩ = some (.slice fa B.length fc) := (hA8d.below hb9).cell 1
            refine hK.out _ _ f9 (fun _ => ?_)
            clear hK K
            try simp only [Act.put, List.setIfInBounds_toArray, List.set_cons_zero, List.set_cons_succ]
            refine wpAnyH_ready (rs := [9]) (by kernel_rfl) (by simp) ?_
            refine AllReadyH.cons (o := { dst := some 67, op := .call { callee := .builtin .append, args := #[.tmp 64, .tmp 66], argTypes := #[22, 22] }, type := _, pos := _, after := _, guard := none }) rfl (fun K hK => ?_) AllReadyH.nil
            refine step_appRow (.tmp 64) (.tmp 66) w8.heap.size v9 m fa B.length fc B (by rfl) (by rfl) (by rfl) (by rfl) hown9 (hBrow.below hsc9.bel) rfl hBnil hmB hb9.size ?_
            intro v10 w10 hown10 hb10
            rw [← HMM.out] at hown10
            obtain ⟨a3, c3, hv3, hl3, hr3, hn3, ho3⟩ := hown10.row2
            subst hv3
            have hbb := hb9.trans hb10
            have hsc10 := hD8.below hbb
            have k1 := hsc10.cm hnow
            have k2 : w10.frozen? ⟨gm, now, none⟩ = false := hsc10.hm.frozen now
            have hA10 := hA8d.below hbb
            have f10 : w10.cell? ⟨wr.heap.size, 1, none⟩ = some (.slice fa B.length fc) := hA10.cell 1
            have f11 : (w10.setCell ⟨gm, now, none⟩ (.slice a3 mm.length c3)).cell? ⟨wr.heap.size, 1, none⟩ = some (.slice fa B.length fc) := (hA10.setOther ⟨gm, now, none⟩ (.slice a3 mm.length c3) n7).cell 1
            refine hK.out _ _ f10 (fun _ => ?_)
            clear hK K
            try simp only [Act.put, List.setIfInBounds_toArray, List.set_cons_zero, List.set_cons_succ]
            refine wpAnyH_take (i := 10) (oi := { dst := some 68, op := .indexAddr 29 (.tmp 58) (.tmp 59), type := _, pos := _, after := _, guard := none }) (v := (.pointer (some ⟨gm, now, none⟩))) rfl (by kernel_rfl) (by kernel_rfl) (by kernel_rfl) (fun _ _ _ h => h) (Or.inl ⟨by rfl, ?_⟩) f10 ?_
            · intro w hSw
              try dsimp only at hSw
              go_simp
            simp only [Act.put, List.setIfInBounds_toArray, List.set_cons_zero, List.set_cons_succ]
            refine wpAnyH_ready (rs := [11]) (by kernel_rfl) (by simp) ?_
            refine AllReadyH.cons (o := { dst := none, op := .store 22 (.tmp 68) (.tmp 67), type := _, pos := _, after := _, guard := none }) rfl (fun K hK => ?_) AllReadyH.nil
            go_simp
            refine hK.out _ _ f11 (fun _ => ?_)
            clear hK K
            try simp only [Act.put, List.setIfInBounds_toArray, List.set_cons_zero, List.set_cons_succ]
            refine wpAnyH_done (by kernel_rfl) ?_ _
            have hsc11 := hsc10.appended hnow hr3 hl3 hn3 (fun b off e hb => by have := (ho3 b off e).1; simp at hb; omega) (fun b off e => (ho3 b off e).2)
            obtain ⟨w11, hw11⟩ : ∃ w11, w11 = w10.setCell ⟨gm, now, none⟩ (.slice a3 mm.length c3) := ⟨_, rfl⟩
            rw [← hw11] at hsc11 ⊢
            clear hw11 k1 k2 f11 f10 f9 f8 q8 q5
            go_wp2
            have y1 := hsc11.ch hnow
            have y3 := hsc11.cm hnow
            have yH := hsc11.drew.h1
            have yb1 : (0 : Int) ≤ (now : Int) := by omega
            have yb2 : (now : Int) < 2 := by omega
            have ylen : (((mm).length : Int) != ((mm).length : Int)) = false := by simp
            go_region_held3 (fun w' => w'.cell? ⟨gh, now, none⟩ = some (P0 g) ∧ w'.cell? ⟨gm, now, none⟩ = some (.slice a3 (mm).length c3)) (first | exact ⟨y1, y3⟩) (first | (go_at_call 29; refine (len_yes g (mm) _ yH).mono ?_; rintro e w9 ⟨rfl, hw9⟩; have hw9' := hw9.symm; subst hw9'))
            go_wp2
            go_roundw
            case rel => exact ⟨i + 1, now, g, g', a3, a2, c3, c2, mm, m', by omega, hnow, by omega, by omega, rfl, by go_num, hsc11.drew⟩
            case measure => simp [intOf]; omega
          · by_cases k1 : k = 1
            · have kb0 : ((k : Int) == 0) = false := by rw [beq_eq_false_iff_ne]; omega
              have kb1 : ((k : Int) == 1) = true := by rw [beq_iff_eq]; omega
              clear k1
              go_wp2_with (first | ((with_reducible show wpList _ _ _ _ _ _); refine wpList_alloc_at rfl 48 rfl _ 2 z48 ?_; intro w3 hA3 hb3 hs3) | ((with_reducible show wpList _ _ _ _ _ _); refine wpList_store_at (P := Tryd.prog) rfl 48 (.tmp 7) (.tmp 25) rfl wr.heap.size [.int .u8 (k : Int), .slice fa B.length fc] rfl rfl 48 _ hA3 i48 rfl (by simp [Value.oneCell']) ?_; intro w4 hA4 hb4 hs4; have hsc4 := hsc.fresh hb3 hb4; have f0 : w4.cell? ⟨wr.heap.size, 0, none⟩ = some (.int .u8 (k : Int)) := hA4.cell 0; have f1 : w4.cell? ⟨wr.heap.size, 1, none⟩ = some (.slice fa B.length fc) := hA4.cell 1; have q1 := hsc4.ch hnow; have q3 := hsc4.cm hnow))
              obtain ⟨ds, hds⟩ : ∃ ds, Hid (ds = sha m) := ⟨_, rfl⟩
              have hdl : Hid (ds.length = 32) := by show _ = _; rw [hds.out]; exact sha_length _
              have qs := fun u => run_same ds ds hdl.out hdl.out u
              have edd : (ds == ds) = true := by simp
              have yb1 : (0 : Int) ≤ (now : Int) := by omega
              have yb2 : (now : Int) < 2 := by omega
              have hD := hsc4.drew
              have hR4 := hR.below hD.bel
              clear hs3 hs4
              go_region_held3 (fun w' => w'.cell? ⟨gh, now, none⟩ = some (P0 g) ∧ w'.cell? ⟨gm, now, none⟩ = some (.slice a1 m.length c1)) (first | exact ⟨q1, q3⟩ | exact ⟨hC6.ch hnow, hC6.cm hnow⟩ | exact ⟨hC5.ch hnow, hC5.cm hnow⟩) (first | (go_at_call 27; refine (hsum_hid g m ds hds _ hD.h1 (by omega) hR4).mono ?_; rintro e w5 ⟨rfl, hb5⟩; have hC5 := hD.below hb5) | (go_at_call 11; refine (refSum_hid a1 c1 m ds hds _ hC5.r1 hC5.n1 (by omega)).mono ?_; rintro e w6 ⟨rfl, hb6⟩; have hC6 := hC5.below hb6))
              go_wp2
              have y1 := hC6.ch hnow
              have y3 := hC6.cm hnow
              have yH := hC6.drew.h1
              have yb1 : (0 : Int) ≤ (now : Int) := by omega
              have yb2 : (now : Int) < 2 := by omega
              have ylen : (((m).length : Int) != ((m).length : Int)) = false := by simp
              go_region_held3 (fun w' => w'.cell? ⟨gh, now, none⟩ = some (P0 g) ∧ w'.cell? ⟨gm, now, none⟩ = some (.slice a1 (m).length c1)) (first | exact ⟨y1, y3⟩) (first | (go_at_call 29; refine (len_yes g (m) _ yH).mono ?_; rintro e w9 ⟨rfl, hw9⟩; have hw9' := hw9.symm; subst hw9'))
              go_wp2
              go_roundw
              case rel => exact ⟨i + 1, now, g, g', a1, a2, c1, c2, m, m', by omega, hnow, by omega, by omega, rfl, by go_num, hC6.drew⟩
              case measure => simp [intOf]; omega
            · by_cases k2 : k = 2
              · have kb0 : ((k : Int) == 0) = false := by rw [beq_eq_false_iff_ne]; omega
                have kb1 : ((k : Int) == 1) = false := by rw [beq_eq_false_iff_ne]; omega
                have kb2 : ((k : Int) == 2) = true := by rw [beq_iff_eq]; omega
                clear k2
                have yb3 : (0 : Int) ≤ (nw : Int) := by omega
                have yb4 : (nw : Int) < 2 := by omega
                go_wp2_with (first | ((with_reducible show wpList _ _ _ _ _ _); refine wpList_alloc_at rfl 48 rfl _ 2 z48 ?_; intro w3 hA3 hb3 hs3) | ((with_reducible show wpList _ _ _ _ _ _); refine wpList_store_at (P := Tryd.prog) rfl 48 (.tmp 7) (.tmp 25) rfl wr.heap.size [.int .u8 (k : Int), .slice fa B.length fc] rfl rfl 48 _ hA3 i48 rfl (by simp [Value.oneCell']) ?_; intro w4 hA4 hb4 hs4; have hsc4 := hsc.fresh hb3 hb4; have f0 : w4.cell? ⟨wr.heap.size, 0, none⟩ = some (.int .u8 (k : Int)) := hA4.cell 0; have f1 : w4.cell? ⟨wr.heap.size, 1, none⟩ = some (.slice fa B.length fc) := hA4.cell 1; have q1 := hsc4.ch hnow; have q3 := hsc4.cm hnow))
                obtain ⟨g2, hg2⟩ : ∃ g2, g2 = w4.heap.size := ⟨_, rfl⟩
                refine (clone_yes g m _ hsc4.h1).mono ?_
                rintro e w5 ⟨rfl, hH5, hb5⟩
                rw [← hg2] at hH5 ⊢
                have hsc5 := hsc4.below hb5
                have z1 := hsc4.h1.lt
                have z2 := hsc4.hh.lt
                have z3 := hsc4.hm.lt
                have z4 := hsc4.bel.size
                have hcl := hsc5.cloned hnow hH5 (by omega) (by omega) (by omega) (by omega) (fun b off e hb => by have := hsc4.o1 b off e; simp at hb; omega) HNW.out
                have t1 := hsc5.ch' hnow
                rw [← HNW.out] at t1
                have t2 : w5.frozen? ⟨gh, nw, none⟩ = false := hsc5.hh.frozen nw
                have hm6 := (But.cell1 w5 gh nw (P0 g2)).at hsc5.hm (fun e => hsc5.e2 e.symm)
                have t3 : (w5.setCell ⟨gh, nw, none⟩ (P0 g2)).cell? ⟨gm, now, none⟩ = some (.slice a1 m.length c1) := by rw [hm6.cell, pair_now now hnow]
                have t4 : (w5.setCell ⟨gh, nw, none⟩ (P0 g2)).cell? ⟨gm, nw, none⟩ = some (.slice a2 m'.length c2) := by rw [hm6.cell, HNW.out, pair_other now hnow]
                have t5 : (w5.setCell ⟨gh, nw, none⟩ (P0 g2)).frozen? ⟨gm, nw, none⟩ = false := hm6.frozen nw
                clear hg2 hs3 hs4 z1 z2 z3 z4 hm6
                go_wp2
                obtain ⟨w7, hw7⟩ : ∃ w7, w7 = (w5.setCell ⟨gh, nw, none⟩ (P0 g2)).setCell ⟨gm, nw, none⟩ (.slice a1 m.length c1) := ⟨_, rfl⟩
                rw [← hw7] at hcl ⊢
                clear hw7 t1 t2 t3 t4 t5 hH5 hb5 hsc5
                have y1 := hcl.ch hnw1
                have y3 := hcl.cm hnw1
                have yH := hcl.drew.h1
                have yb1 : (0 : Int) ≤ (nw : Int) := by omega
                have yb2 : (nw : Int) < 2 := by omega
                have ylen : (((m).length : Int) != ((m).length : Int)) = false := by simp
                go_region_held3 (fun w' => w'.cell? ⟨gh, nw, none⟩ = some (P0 g2) ∧ w'.cell? ⟨gm, nw, none⟩ = some (.slice a1 (m).length c1)) (first | exact ⟨y1, y3⟩) (first | (go_at_call 29; refine (len_yes g2 (m) _ yH).mono ?_; rintro e w9 ⟨rfl, hw9⟩; have hw9' := hw9.symm; subst hw9'))
                go_wp2
                go_roundw
                case rel => exact ⟨i + 1, nw, g2, g, a1, a1, c1, c1, m, m, by omega, hnw1, by omega, by omega, rfl, by go_num, hcl.drew⟩
                case measure => simp [intOf]; omega
              · by_cases k3 : k = 3
                · have kb0 : ((k : Int) == 0) = false := by rw [beq_eq_false_iff_ne]; omega
                  have kb1 : ((k : Int) == 1) = false := by rw [beq_eq_false_iff_ne]; omega
                  have kb2 : ((k : Int) == 2) = false := by rw [beq_eq_false_iff_ne]; omega
                  have kb3 : ((k : Int) == 3) = true := by rw [beq_iff_eq]; omega
                  clear k3
                  go_wp2_with (first | ((with_reducible show wpList _ _ _ _ _ _); refine wpList_alloc_at rfl 48 rfl _ 2 z48 ?_; intro w3 hA3 hb3 hs3) | ((with_reducible show wpList _ _ _ _ _ _); refine wpList_store_at (P := Tryd.prog) rfl 48 (.tmp 7) (.tmp 25) rfl wr.heap.size [.int .u8 (k : Int), .slice fa B.length fc] rfl rfl 48 _ hA3 i48 rfl (by simp [Value.oneCell']) ?_; intro w4 hA4 hb4 hs4; have hsc4 := hsc.fresh hb3 hb4; have f0 : w4.cell? ⟨wr.heap.size, 0, none⟩ = some (.int .u8 (k : Int)) := hA4.cell 0; have f1 : w4.cell? ⟨wr.heap.size, 1, none⟩ = some (.slice fa B.length fc) := hA4.cell 1; have q1 := hsc4.ch hnow; have q3 := hsc4.cm hnow))
                  have hsw := hsc4.swap hnow
                  rw [← HNW.out] at hsw
                  have y1 := hsw.ch hnw1
                  have y3 := hsw.cm hnw1
                  have yH := hsw.drew.h1
                  have yb1 : (0 : Int) ≤ (nw : Int) := by omega
                  have yb2 : (nw : Int) < 2 := by omega
                  have ylen : (((m').length : Int) != ((m').length : Int)) = false := by simp
                  go_region_held3 (fun w' => w'.cell? ⟨gh, nw, none⟩ = some (P0 g') ∧ w'.cell? ⟨gm, nw, none⟩ = some (.slice a2 (m').length c2)) (first | exact ⟨y1, y3⟩) (first | (go_at_call 29; refine (len_yes g' (m') _ yH).mono ?_; rintro e w9 ⟨rfl, hw9⟩; have hw9' := hw9.symm; subst hw9'))
                  go_wp2
                  go_roundw
                  case rel => exact ⟨i + 1, nw, g', g, a2, a1, c2, c1, m', m, by omega, by omega, by omega, by omega, rfl, by go_num, hsw.drew⟩
                  case measure => simp [intOf]; omega
                · have kb0 : ((k : Int) == 0) = false := by rw [beq_eq_false_iff_ne]; omega
                  have kb1 : ((k : Int) == 1) = false := by rw [beq_eq_false_iff_ne]; omega
                  have kb2 : ((k : Int) == 2) = false := by rw [beq_eq_false_iff_ne]; omega
                  have kb3 : ((k : Int) == 3) = false := by rw [beq_eq_false_iff_ne]; omega
                  go_wp2_with (first | ((with_reducible show wpList _ _ _ _ _ _); refine wpList_alloc_at rfl 48 rfl _ 2 z48 ?_; intro w3 hA3 hb3 hs3) | ((with_reducible show wpList _ _ _ _ _ _); refine wpList_store_at (P := Tryd.prog) rfl 48 (.tmp 7) (.tmp 25) rfl wr.heap.size [.int .u8 (k : Int), .slice fa B.length fc] rfl rfl 48 _ hA3 i48 rfl (by simp [Value.oneCell']) ?_; intro w4 hA4 hb4 hs4; have hsc4 := hsc.fresh hb3 hb4; have f0 : w4.cell? ⟨wr.heap.size, 0, none⟩ = some (.int .u8 (k : Int)) := hA4.cell 0; have f1 : w4.cell? ⟨wr.heap.size, 1, none⟩ = some (.slice fa B.length fc) := hA4.cell 1; have q1 := hsc4.ch hnow; have q3 := hsc4.cm hnow))
                  have y1 := hsc4.ch hnow
                  have y3 := hsc4.cm hnow
                  have yH := hsc4.drew.h1
                  have yb1 : (0 : Int) ≤ (now : Int) := by omega
                  have yb2 : (now : Int) < 2 := by omega
                  have ylen : (((m).length : Int) != ((m).length : Int)) = false := by simp
                  go_region_held3 (fun w' => w'.cell? ⟨gh, now, none⟩ = some (P0 g) ∧ w'.cell? ⟨gm, now, none⟩ = some (.slice a1 (m).length c1)) (first | exact ⟨y1, y3⟩) (first | (go_at_call 29; refine (len_yes g (m) _ yH).mono ?_; rintro e w9 ⟨rfl, hw9⟩; have hw9' := hw9.symm; subst hw9'))
                  go_wp2
                  go_roundw
                  case rel => exact ⟨i + 1, now, g, g', a1, a2, c1, c2, m, m', by omega, hnow, by omega, by omega, rfl, by go_num, hsc4.drew⟩
                  case measure => simp [intOf]; omega
        · go_wp2_with (first | ((with_reducible show wpList _ _ _ _ _ _); refine wpList_alloc_at rfl 48 rfl _ 2 z48 ?_; intro w3 hA3 hb3 hs3) | ((with_reducible show wpList _ _ _ _ _ _); refine wpList_store_at (P := Tryd.prog) rfl 48 (.tmp 7) (.tmp 25) rfl wr.heap.size [.int .u8 (k : Int), .slice fa B.length fc] rfl rfl 48 _ hA3 i48 rfl (by simp [Value.oneCell']) ?_; intro w4 hA4 hb4 hs4; have hsc4 := hsc.fresh hb3 hb4; have f0 : w4.cell? ⟨wr.heap.size, 0, none⟩ = some (.int .u8 (k : Int)) := hA4.cell 0; have f1 : w4.cell? ⟨wr.heap.size, 1, none⟩ = some (.slice fa B.length fc) := hA4.cell 1; have q1 := hsc4.ch hnow; have q3 := hsc4.cm hnow))
          go_ret
          exact ⟨rfl, hsc4.bel⟩
    · have q1 := hsc.ch hnow
      have q3 := hsc.cm hnow
      obtain ⟨ds, hds⟩ : ∃ ds, Hid (ds = sha m) := ⟨_, rfl⟩
      have hdl : Hid (ds.length = 32) := by show _ = _; rw [hds.out]; exact sha_length _
      have qs := fun u => run_same ds ds hdl.out hdl.out u
      have edd : (ds == ds) = true := by simp
      have yb1 : (0 : Int) ≤ (now : Int) := by omega
      have yb2 : (now : Int) < 2 := by omega
      have hD := hsc.drew
      have hR4 := hR.below hD.bel
      go_wp2
      go_region_held3 (fun w' => w'.cell? ⟨gh, now, none⟩ = some (P0 g) ∧ w'.cell? ⟨gm, now, none⟩ = some (.slice a1 m.length c1)) (first | exact ⟨q1, q3⟩ | exact ⟨hC6.ch hnow, hC6.cm hnow⟩ | exact ⟨hC5.ch hnow, hC5.cm hnow⟩) (first | (go_at_call 27; refine (hsum_hid g m ds hds _ hD.h1 (by omega) hR4).mono ?_; rintro e w5 ⟨rfl, hb5⟩; have hC5 := hD.below hb5) | (go_at_call 11; refine (refSum_hid a1 c1 m ds hds _ hC5.r1 hC5.n1 (by omega)).mono ?_; rintro e w6 ⟨rfl, hb6⟩; have hC6 := hC5.below hb6))
      go_wp2
      go_ret
      exact ⟨rfl, hC6.bel⟩

end Go.Proofs.YtbigkblkfnnfkaaDoor
