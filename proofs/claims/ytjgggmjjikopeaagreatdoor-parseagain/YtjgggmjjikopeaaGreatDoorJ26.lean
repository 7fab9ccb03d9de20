/- Joined texts of the proof. -/
import Derived.Test.YtjgggmjjikopeaaGreatDoorJ24
import Derived.IntWalk

/- What stands between signs of two operands. -/
namespace Go.Proofs.YtjgggmjjikopeaaGreatDoor
open Go.RowKit
set_option linter.unusedVariables false

theorem open_cases (x : List UInt8) : openOf x = 0 ∨ openOf x = 16 ∨ openOf x = 17 ∨ openOf x = 18 ∨ openOf x = 19 := by
  unfold openOf
  split
  · simp
  · split
    · simp
    · split
      · simp
      · split <;> simp

set_option maxRecDepth 100000 in
set_option maxHeartbeats 6400000 in
theorem operand_of (f : Nat) (hO : OperW f) (hK : BrkW f) : OperW (f + 1) := by
  intro d l R hd h B g w hr hB
  have hlt := hr.lt
  have HN : Hid (∀ u, Below w.heap.size w u → Calls Tryz.prog 92 #[.pointer (some ⟨g, 0, none⟩)] u fun r w' => r = .returned (.agg (hdT l).cells.toArray) ∧ Below u.heap.size u w') := fun u hu => next_any g l u (hr.below hu)
  have HR : Hid (∀ u, Below w.heap.size w u → Rd B u g l) := fun u hu => hr.below hu
  have HF : Hid (∀ u, Rd B u g l → B ≤ u.heap.size → Calls Tryz.prog 140 #[.pointer (some ⟨g, 0, none⟩)] u fun r w' => PostX B g u (leafR l) r w') := fun u hu hs => leaf_any g l u hu hs
  have HO := fun w => opens_any ⟨(hdT l).text.toArray⟩ w
  have HT : Hid (∀ u, Rd B u g l → (hdT l).text ≠ [] → Calls Tryz.prog 93 #[.pointer (some ⟨g, 0, none⟩)] u fun r w' => r = .returned (.tuple #[]) ∧ Rd B w' g l.tail ∧ But g u w') := fun u hu hn => take_any g l u hu (.inl hn)
  rw [operF] at h
  generalize ht : hdT l = t at *
  obtain ⟨K, T, p, b⟩ := t
  have HN : Hid (∀ u, Below w.heap.size w u → Calls Tryz.prog 92 #[.pointer (some ⟨g, 0, none⟩)] u fun r w' => r = .returned (.agg ((tok5 K ⟨T.toArray⟩ p (valT K) b).toArray)) ∧ Below u.heap.size u w') := HN
  have HO : ∀ w, Calls Tryz.prog 139 #[.string ⟨T.toArray⟩] w fun r w' => r = .returned (.int .u8 (openOf T : Int)) ∧ w' = w := HO
  dsimp only at h HT
  clear ht hr
  generalize valT K = vt at *
  go_enter Tryz.func107, Tryz.ntmps107
  go_wp2_with (first
    | ((with_reducible show wpList _ _ _ _ _ _); refine wpList_alloc_at (o := { dst := some 4, .. }) rfl 43 rfl [.int .u8 0, .int .u8 0, .int .u64 0, .string ⟨#[]⟩, .slice none 0 0] 5 z29 ?_; intro w1 hA1 hb1 hs1; clear hs1)
    | (go_at_call 92; refine (HN.out _ hb1).mono ?_; rintro r w2 ⟨rfl, hb2⟩)
    | ((with_reducible show wpList _ _ _ _ _ _); refine wpList_alloc_at (o := { dst := some 5, .. }) rfl 64 rfl (tok5 0 ⟨#[]⟩ 0 0 0) 5 z34 ?_; intro w3 hA3 hb3 hs3; clear hs3)
    | ((with_reducible show wpList _ _ _ _ _ _); refine wpList_store_at (P := Tryz.prog) rfl 64 (.tmp 5) (.tmp 8) rfl w2.heap.size (tok5 K ⟨T.toArray⟩ p vt b) rfl rfl 64 _ hA3 i34 rfl (one5T _ _ _ _ _) ?_; intro w4 hA4 hb4 hs4; clear hs4; refine Hid.out ?_))
  refine hidU ?_
  have l1 := hA1.lt
  have l2 := hb2.size
  have l3 := hA3.lt
  have l4 := hb4.size
  have l0 := hb1.size
  have hB4 : Below w.heap.size w w4 := hb4.below ((hb1.trans (hb2.mono l0)).trans (hb3.mono (by omega))) (by omega) (by have := hb3.size; omega)
  have hA14 := hb4.at ((hA1.below hb2).below hb3) (by omega)
  have hR4 := HR.out _ hB4
  clear hA1 hA3 hb1 hb2 hb3 hb4 HN HR
  obtain ⟨q0, q1, q2, q3, q4⟩ := tk5_cells hA4
  by_cases c1 : openOf T = 0 ∧ T ≠ [40]
  · rw [if_pos c1] at h
    obtain rfl := Option.some.inj h
    have n40 : (T == [40]) = false := by rw [beq_eq_false_iff_ne]; exact c1.2
    rw [c1.1] at HO
    have HF := HF.out w4 hR4 (by omega)
    clear h c1 HT hO hK
    cases hl : leafR l with
    | bad e q =>
      rw [hl] at HF
      go_wp2_with (first
        | (go_at_call 139; refine (HO _).mono ?_; rintro r u ⟨rfl, rfl⟩)
        | (go_at_call 140; refine HF.mono ?_; rintro r w5 ⟨hr, hb5⟩; unfold PanW at hr; subst hr))
      exact ⟨rfl, by rw [hl]; exact ⟨rfl, (But.of_below hB4).trans hb5⟩⟩
    | ok x l' =>
      rw [hl] at HF
      go_wp2_with (first
        | (go_at_call 139; refine (HO _).mono ?_; rintro r u ⟨rfl, rfl⟩)
        | (go_at_call 140; refine HF.mono ?_; rintro _ w5 ⟨y, rfl, he, hT, hR5, hb5⟩; have hA15 := hb5.at hA14 (by omega))
        | ((with_reducible show wpList _ _ _ _ _ _); refine wpList_store_at (P := Tryz.prog) rfl 43 (.tmp 4) (.tmp 20) rfl w.heap.size y.cells rfl rfl 43 _ hA15 (i43 _) (len43 _) (ET.one _) ?_; intro w9 hA9 hb9 hs9; clear hs9))
      refine bodyPost_ret (results_at rfl _ _ w.heap.size 43 y.cells _ rfl hA9 Tryz.underlying43 rfl (i43 _)) rfl ?_
      show PostX B g w (leafR l) _ _
      rw [hl]
      exact ⟨y, rfl, he, (hT.but hb9 (.inl (by omega))).low (by omega), hR5.but hb9 hB, ((But.of_below hB4).trans hb5).fresh hb9 (Nat.le_refl _)⟩
  · rw [if_neg c1] at h
    have hne : T ≠ [] := by
      rintro rfl
      exact c1 ⟨by decide, by decide⟩
    by_cases c2 : 32 ≤ d
    · rw [if_pos c2] at h
      obtain rfl := Option.some.inj h
      clear h HT HF hO hK hne
      by_cases c0 : openOf T = 0
      focus
        obtain rfl : T = [40] := by
          by_cases e : T = [40]
          · exact e
          · exact absurd ⟨c0, e⟩ c1
        rw [c0] at HO
        clear c1 c0
      rotate_left
      focus
        generalize openOf T = k at HO c0
        clear c1
      rotate_left
      all_goals
        go_wp2_with (first
          | (go_at_call 139; refine (HO _).mono ?_; rintro r u ⟨rfl, rfl⟩)
          | (go_at_call 54; refine (refuse_any 160 p _).mono ?_; rintro r u ⟨hr, rfl⟩; unfold PanW at hr; subst hr))
        exact ⟨rfl, rfl, But.of_below hB4⟩
    · rw [if_neg c2] at h
      have hT4 := HT.out w4 hR4 hne
      by_cases c3 : openOf T = 16 ∨ openOf T = 17
      · rw [if_pos c3] at h
        cases hx : operF f (d + 1) l.tail with
        | none => rw [hx] at h; cases h
        | some Y =>
          rw [hx] at h
          have HC : Hid (∀ u, Rd B u g l.tail → w.heap.size ≤ u.heap.size → Calls Tryz.prog 107 #[.pointer (some ⟨g, 0, none⟩), .int .i64 ((d : Int) + 1)] u fun r w' => PostX B g u Y r w') := fun u hu hs => by
            have := hO (d + 1) l.tail Y (by omega) hx B g u hu (by omega)
            rwa [show ((d + 1 : Nat) : Int) = (d : Int) + 1 by omega] at this
          have hh : Hid (∀ e r, some Y = some (.ok e r) → htX e ≤ 32) := fun e r hY => (read_ht f).2.2.1 (d + 1) l.tail e r (hx.trans hY)
          clear hx HT HF hO hK hne c1 hR4
          rcases c3 with e | e
          all_goals
            rw [e] at h HO
            clear e
            go_wp2_with (first
              | (go_at_call 139; refine (HO _).mono ?_; rintro r u ⟨rfl, rfl⟩)
              | (go_at_call 93; refine hT4.mono ?_; rintro r w5 ⟨rfl, hR5, hb5⟩; refine Hid.out ?_))
            refine hidU ?_
            have hA45 := hb5.at hA4 (by omega)
            have hA15 := hb5.at hA14 (by omega)
            have l5 := hb5.size
            have hB5 : But g w w5 := (But.of_below hB4).trans hb5
            clear hT4 q0 q1 q2 q3 q4
            go_wp2_with fail
            have hS0 : At 64 w5.drew w2.heap.size (tok5 K ⟨T.toArray⟩ p vt b) := hA45.drew
            have hD0 : At 43 w5.drew w.heap.size [.int .u8 0, .int .u8 0, .int .u64 0, .string ⟨#[]⟩, .slice none 0 0] := hA15.drew
            have hR0 : Rd B w5.drew g l.tail := hR5.below (Below.drew (Below.refl _ _))
            have hB5 : But g w w5.drew := hB5.trans (But.of_below (Below.drew (Below.refl _ _)))
            refine wp_region_held_drew (S := fun x => At 64 x w2.heap.size (tok5 K ⟨T.toArray⟩ p vt b)) (by kernel_rfl) hS0 (fun _ => ?_)
            refine wpAnyH_take (i := 0) (oi := { dst := some 32, op := .fieldAddr 64 (.tmp 5) 2, type := _, pos := _, after := _, guard := none }) (v := .pointer (some ⟨w2.heap.size, 2, none⟩)) rfl (by kernel_rfl) (by kernel_rfl) (by kernel_rfl) (fun _ _ _ h => h) (Or.inl ⟨by rfl, ?_⟩) hS0 ?_
            · intro w hSw
              obtain ⟨q0, q1, q2, q3, q4⟩ := tk5_cells hSw
              go_simp
            simp only [Act.put, List.setIfInBounds_toArray, List.set_cons_zero, List.set_cons_succ]
            refine wpAnyH_take (i := 1) (oi := { dst := some 33, op := .load 3 (.tmp 32), type := _, pos := _, after := _, guard := none }) (v := .int .i64 (p : Int)) rfl (by kernel_rfl) (by kernel_rfl) (by kernel_rfl) (fun _ _ _ h => h) (Or.inl ⟨by rfl, ?_⟩) hS0 ?_
            · intro w hSw
              obtain ⟨q0, q1, q2, q3, q4⟩ := tk5_cells hSw
              go_simp
            simp only [Act.put, List.setIfInBounds_toArray, List.set_cons_zero, List.set_cons_succ]
          focus
            refine wpAnyH_take (i := 2) (oi := { dst := some 34, op := .move (.tmp 6), type := _, pos := _, after := _, guard := none }) (v := .int .u8 16) rfl (by kernel_rfl) (by kernel_rfl) (by kernel_rfl) (fun _ _ _ h => h) (Or.inl ⟨by rfl, ?_⟩) hS0 ?_
            · intro w hSw
              go_simp
          rotate_left
          focus
            refine wpAnyH_take (i := 2) (oi := { dst := some 34, op := .move (.tmp 6), type := _, pos := _, after := _, guard := none }) (v := .int .u8 17) rfl (by kernel_rfl) (by kernel_rfl) (by kernel_rfl) (fun _ _ _ h => h) (Or.inl ⟨by rfl, ?_⟩) hS0 ?_
            · intro w hSw
              go_simp
          rotate_left
          all_goals
            simp only [Act.put, List.setIfInBounds_toArray, List.set_cons_zero, List.set_cons_succ]
            refine wpAnyH_take (i := 3) (oi := { dst := some 35, op := .move (.tmp 0), type := _, pos := _, after := _, guard := none }) (v := .pointer (some ⟨g, 0, none⟩)) rfl (by kernel_rfl) (by kernel_rfl) (by kernel_rfl) (fun _ _ _ h => h) (Or.inl ⟨by rfl, ?_⟩) hS0 ?_
            · intro w hSw
              go_simp
            simp only [Act.put, List.setIfInBounds_toArray, List.set_cons_zero, List.set_cons_succ]
            refine wpAnyH_take (i := 4) (oi := { dst := some 36, op := .move (.tmp 1), type := _, pos := _, after := _, guard := none }) (v := .int .i64 (d : Int)) rfl (by kernel_rfl) (by kernel_rfl) (by kernel_rfl) (fun _ _ _ h => h) (Or.inl ⟨by rfl, ?_⟩) hS0 ?_
            · intro w hSw
              go_simp
            simp only [Act.put, List.setIfInBounds_toArray, List.set_cons_zero, List.set_cons_succ]
            refine wpAnyH_take (i := 5) (oi := { dst := some 37, op := .binOp .add 3 (.tmp 36) (.const (.int .i64 1)) 3, type := _, pos := _, after := _, guard := none }) (v := .int .i64 ((d : Int) + 1)) rfl (by kernel_rfl) (by kernel_rfl) (by kernel_rfl) (fun _ _ _ h => h) (Or.inl ⟨by rfl, ?_⟩) hS0 ?_
            · intro w hSw
              go_simp
              exact IntWalk.i64_in _ ⟨by omega, by omega⟩
            simp only [Act.put, List.setIfInBounds_toArray, List.set_cons_zero, List.set_cons_succ]
            refine wpAnyH_ready (rs := [6]) (by kernel_rfl) (by simp) ?_
            refine AllReadyH.cons (o := { dst := some 38, op := .call { callee := .value (.func 107), args := #[.tmp 35, .tmp 37], argTypes := #[66, 3] }, type := _, pos := _, after := _, guard := none }) rfl (fun KK hK => ?_) AllReadyH.nil
            rw [if_pos (by rfl)]
          · cases Y with
            | bad e q =>
              cases h
              go_wp2_with (go_at_call 107; refine (HC.out _ hR0 (by show _ ≤ w5.heap.size; omega)).mono ?_; rintro r w6 ⟨hr, hb6⟩; unfold PanW at hr; subst hr)
              exact ⟨rfl, rfl, hB5.trans hb6⟩
            | ok x r =>
              have hh := hh.out x r rfl
              have hR := Option.some.inj h
              unfold nodeR at hR
              clear h
              go_wp2_with (go_at_call 107; refine (HC.out _ hR0 (by show _ ≤ w5.heap.size; omega)).mono ?_; rintro _ w6 ⟨y, rfl, he, hT, hR6, hb6⟩)
              have hS6 : At 64 w6 w2.heap.size (tok5 K ⟨T.toArray⟩ p vt b) := hb6.at hS0 (by omega)
              have hD6 := hb6.at hD0 (by omega)
              have l6 : w5.heap.size ≤ w6.heap.size := hb6.size
              refine hK.out _ _ hS6 (fun _ => ?_)
              refine wpAnyH_ready (rs := [7]) (by kernel_rfl) (by simp) ?_
              refine AllReadyH.cons (o := { dst := some 39, op := .buildSlice 41 1 #[(0, .tmp 38)], type := _, pos := _, after := _, guard := none }) rfl (fun KK hK => ?_) AllReadyH.nil
              rw [if_pos (by rfl)]
              refine wp_kid1 (.tmp 38) rfl y rfl ?_
              intro w7 hA7 hb7 hs7
              have hS7 : At 64 w7 w2.heap.size (tok5 K ⟨T.toArray⟩ p vt b) := hS6.below hb7
              have hD7 := hD6.below hb7
              have hT7 := kid1_in (op := 16) hA7 (hT.below hb7) (by decide) l6
              have l7 := hb7.size
              refine hK.out _ _ hS7 (fun _ => ?_)
              have hN := node_any p 16 (some ⟨w6.heap.size, 0, none⟩) 1 [y] w7 hT7.1.1 (by
                show htX (.mk 16 0 0 [] [y.ex]) ≤ 1048576
                rw [he]
                simp only [htX, htL]
                omega)
              refine wpAnyH_ready (rs := [8]) (by kernel_rfl) (by simp) ?_
              refine AllReadyH.cons (o := { dst := some 40, op := .call { callee := .value (.func 109), args := #[.tmp 33, .tmp 34, .tmp 39], argTypes := #[3, 36, 41] }, type := _, pos := _, after := _, guard := none }) rfl (fun KK hK => ?_) AllReadyH.nil
              rw [if_pos (by rfl)]
              have ex : htX (ET.mk 16 0 0 ⟨#[]⟩ (some ⟨w6.heap.size, 0, none⟩) 1 [y]).ex = htX (.mk 16 0 0 [] [x]) := by rw [← he]; rfl
              rw [ex] at hN
              by_cases hht : 32 < htX (.mk 16 0 0 [] [x])
              · rw [if_pos hht] at hR
                subst hR
                go_wp2_with (go_at_call 109; refine hN.mono ?_; rintro r w8 ⟨hr, hb8⟩; rw [if_pos hht] at hr; unfold PanW at hr; subst hr)
                exact ⟨rfl, rfl, ((hB5.trans hb6).trans (But.of_below hb7)).trans (But.of_below hb8)⟩
              · rw [if_neg hht] at hR
                subst hR
                go_wp2_with (go_at_call 109; refine hN.mono ?_; rintro r w8 ⟨hr, hb8⟩; rw [if_neg hht] at hr; subst hr)
                have hS8 : At 64 w8 w2.heap.size (tok5 K ⟨T.toArray⟩ p vt b) := hS7.below hb8
                have hD8 := hD7.below hb8
                have hT8 := hT7.below hb8
                have hR8 := (hR6.below hb7).below hb8
                have hB8 : But g w w8 := ((hB5.trans hb6).trans (But.of_below hb7)).trans (But.of_below hb8)
                have l8 := hb8.size
                refine hK.out _ _ hS8 (fun _ => ?_)
                refine wpAnyH_ready (rs := [9]) (by kernel_rfl) (by simp) ?_
                refine AllReadyH.cons (o := { dst := none, op := .store 43 (.tmp 4) (.tmp 40), type := _, pos := _, after := _, guard := none }) rfl (fun KK hK => ?_) AllReadyH.nil
                rw [if_pos (by rfl)]
                refine wp_store_mid (P := Tryz.prog) 43 (.tmp 4) (.tmp 40) rfl w.heap.size 0 (ET.mk 16 0 0 ⟨#[]⟩ (some ⟨w6.heap.size, 0, none⟩) 1 [y]).cells.toArray rfl rfl (hD8.there 0 5 (by decide)) i29 (all_oneCell_toArray (ET.one (ET.mk 16 0 0 ⟨#[]⟩ (some ⟨w6.heap.size, 0, none⟩) 1 [y]))) ?_
                have hbu : But w.heap.size w8 (w8.setCells w.heap.size 0 (ET.mk 16 0 0 ⟨#[]⟩ (some ⟨w6.heap.size, 0, none⟩) 1 [y]).cells) := (((((But.refl _ _).setCell 0 _).setCell 1 _).setCell 2 _).setCell 3 _).setCell 4 _
                have hA9 : At 43 (w8.setCells w.heap.size 0 (ET.mk 16 0 0 ⟨#[]⟩ (some ⟨w6.heap.size, 0, none⟩) 1 [y]).cells) w.heap.size (ET.mk 16 0 0 ⟨#[]⟩ (some ⟨w6.heap.size, 0, none⟩) 1 [y]).cells := ((((hD8.set 0 _).set 1 _).set 2 _).set 3 _).set 4 _
                have hS9 := hbu.at hS8 (by omega)
                refine hK.out _ _ hS9 (fun _ => ?_)
                refine wpAnyH_done (by kernel_rfl) ?_ _
                go_wp2
                refine bodyPost_ret (results_at rfl _ _ w.heap.size 43 (ET.mk 16 0 0 ⟨#[]⟩ (some ⟨w6.heap.size, 0, none⟩) 1 [y]).cells _ rfl hA9 Tryz.underlying43 rfl (i43 _)) rfl ?_
                have ed : w5.drew.heap.size = w5.heap.size := rfl
                exact ⟨(ET.mk 16 0 0 ⟨#[]⟩ (some ⟨w6.heap.size, 0, none⟩) 1 [y]), rfl, by rw [← he]; rfl, (hT8.but hbu (.inl (by omega))).low (by omega), hR8.but hbu hB, hB8.fresh hbu (Nat.le_refl _)⟩
          · cases Y with
            | bad e q =>
              cases h
              go_wp2_with (go_at_call 107; refine (HC.out _ hR0 (by show _ ≤ w5.heap.size; omega)).mono ?_; rintro r w6 ⟨hr, hb6⟩; unfold PanW at hr; subst hr)
              exact ⟨rfl, rfl, hB5.trans hb6⟩
            | ok x r =>
              have hh := hh.out x r rfl
              have hR := Option.some.inj h
              unfold nodeR at hR
              clear h
              go_wp2_with (go_at_call 107; refine (HC.out _ hR0 (by show _ ≤ w5.heap.size; omega)).mono ?_; rintro _ w6 ⟨y, rfl, he, hT, hR6, hb6⟩)
              have hS6 : At 64 w6 w2.heap.size (tok5 K ⟨T.toArray⟩ p vt b) := hb6.at hS0 (by omega)
              have hD6 := hb6.at hD0 (by omega)
              have l6 : w5.heap.size ≤ w6.heap.size := hb6.size
              refine hK.out _ _ hS6 (fun _ => ?_)
              refine wpAnyH_ready (rs := [7]) (by kernel_rfl) (by simp) ?_
              refine AllReadyH.cons (o := { dst := some 39, op := .buildSlice 41 1 #[(0, .tmp 38)], type := _, pos := _, after := _, guard := none }) rfl (fun KK hK => ?_) AllReadyH.nil
              rw [if_pos (by rfl)]
              refine wp_kid1 (.tmp 38) rfl y rfl ?_
              intro w7 hA7 hb7 hs7
              have hS7 : At 64 w7 w2.heap.size (tok5 K ⟨T.toArray⟩ p vt b) := hS6.below hb7
              have hD7 := hD6.below hb7
              have hT7 := kid1_in (op := 17) hA7 (hT.below hb7) (by decide) l6
              have l7 := hb7.size
              refine hK.out _ _ hS7 (fun _ => ?_)
              have hN := node_any p 17 (some ⟨w6.heap.size, 0, none⟩) 1 [y] w7 hT7.1.1 (by
                show htX (.mk 17 0 0 [] [y.ex]) ≤ 1048576
                rw [he]
                simp only [htX, htL]
                omega)
              refine wpAnyH_ready (rs := [8]) (by kernel_rfl) (by simp) ?_
              refine AllReadyH.cons (o := { dst := some 40, op := .call { callee := .value (.func 109), args := #[.tmp 33, .tmp 34, .tmp 39], argTypes := #[3, 36, 41] }, type := _, pos := _, after := _, guard := none }) rfl (fun KK hK => ?_) AllReadyH.nil
              rw [if_pos (by rfl)]
              have ex : htX (ET.mk 17 0 0 ⟨#[]⟩ (some ⟨w6.heap.size, 0, none⟩) 1 [y]).ex = htX (.mk 17 0 0 [] [x]) := by rw [← he]; rfl
              rw [ex] at hN
              by_cases hht : 32 < htX (.mk 17 0 0 [] [x])
              · rw [if_pos hht] at hR
                subst hR
                go_wp2_with (go_at_call 109; refine hN.mono ?_; rintro r w8 ⟨hr, hb8⟩; rw [if_pos hht] at hr; unfold PanW at hr; subst hr)
                exact ⟨rfl, rfl, ((hB5.trans hb6).trans (But.of_below hb7)).trans (But.of_below hb8)⟩
              · rw [if_neg hht] at hR
                subst hR
                go_wp2_with (go_at_call 109; refine hN.mono ?_; rintro r w8 ⟨hr, hb8⟩; rw [if_neg hht] at hr; subst hr)
                have hS8 : At 64 w8 w2.heap.size (tok5 K ⟨T.toArray⟩ p vt b) := hS7.below hb8
                have hD8 := hD7.below hb8
                have hT8 := hT7.below hb8
                have hR8 := (hR6.below hb7).below hb8
                have hB8 : But g w w8 := ((hB5.trans hb6).trans (But.of_below hb7)).trans (But.of_below hb8)
                have l8 := hb8.size
                refine hK.out _ _ hS8 (fun _ => ?_)
                refine wpAnyH_ready (rs := [9]) (by kernel_rfl) (by simp) ?_
                refine AllReadyH.cons (o := { dst := none, op := .store 43 (.tmp 4) (.tmp 40), type := _, pos := _, after := _, guard := none }) rfl (fun KK hK => ?_) AllReadyH.nil
                rw [if_pos (by rfl)]
                refine wp_store_mid (P := Tryz.prog) 43 (.tmp 4) (.tmp 40) rfl w.heap.size 0 (ET.mk 17 0 0 ⟨#[]⟩ (some ⟨w6.heap.size, 0, none⟩) 1 [y]).cells.toArray rfl rfl (hD8.there 0 5 (by decide)) i29 (all_oneCell_toArray (ET.one (ET.mk 17 0 0 ⟨#[]⟩ (some ⟨w6.heap.size, 0, none⟩) 1 [y]))) ?_
                have hbu : But w.heap.size w8 (w8.setCells w.heap.size 0 (ET.mk 17 0 0 ⟨#[]⟩ (some ⟨w6.heap.size, 0, none⟩) 1 [y]).cells) := (((((But.refl _ _).setCell 0 _).setCell 1 _).setCell 2 _).setCell 3 _).setCell 4 _
                have hA9 : At 43 (w8.setCells w.heap.size 0 (ET.mk 17 0 0 ⟨#[]⟩ (some ⟨w6.heap.size, 0, none⟩) 1 [y]).cells) w.heap.size (ET.mk 17 0 0 ⟨#[]⟩ (some ⟨w6.heap.size, 0, none⟩) 1 [y]).cells := ((((hD8.set 0 _).set 1 _).set 2 _).set 3 _).set 4 _
                have hS9 := hbu.at hS8 (by omega)
                refine hK.out _ _ hS9 (fun _ => ?_)
                refine wpAnyH_done (by kernel_rfl) ?_ _
                go_wp2
                refine bodyPost_ret (results_at rfl _ _ w.heap.size 43 (ET.mk 17 0 0 ⟨#[]⟩ (some ⟨w6.heap.size, 0, none⟩) 1 [y]).cells _ rfl hA9 Tryz.underlying43 rfl (i43 _)) rfl ?_
                have ed : w5.drew.heap.size = w5.heap.size := rfl
                exact ⟨(ET.mk 17 0 0 ⟨#[]⟩ (some ⟨w6.heap.size, 0, none⟩) 1 [y]), rfl, by rw [← he]; rfl, (hT8.but hbu (.inl (by omega))).low (by omega), hR8.but hbu hB, hB8.fresh hbu (Nat.le_refl _)⟩
      · rw [if_neg c3] at h
        by_cases c4 : openOf T = 0
        · rw [if_pos c4] at h
          obtain rfl : T = [40] := by
            by_cases e : T = [40]
            · exact e
            · exact absurd ⟨c4, e⟩ c1
          have HC := hK d l R (by omega) h B g w4 hR4 (by omega)
          rw [c4] at HO
          clear h HT HF hO hK hne c1 c3 c4 hT4 hR4
          cases R with
          | bad e q =>
            go_wp2_with (first
              | (go_at_call 139; refine (HO _).mono ?_; rintro r u ⟨rfl, rfl⟩)
              | (go_at_call 141; refine HC.mono ?_; rintro r w5 ⟨hr, hb5⟩; unfold PanW at hr; subst hr))
            exact ⟨rfl, rfl, (But.of_below hB4).trans hb5⟩
          | ok x l' =>
            go_wp2_with (first
              | (go_at_call 139; refine (HO _).mono ?_; rintro r u ⟨rfl, rfl⟩)
              | (go_at_call 141; refine HC.mono ?_; rintro _ w5 ⟨y, rfl, he, hT, hR5, hb5⟩; have hA15 := hb5.at hA14 (by omega))
              | ((with_reducible show wpList _ _ _ _ _ _); refine wpList_store_at (P := Tryz.prog) rfl 43 (.tmp 4) (.tmp 56) rfl w.heap.size y.cells rfl rfl 43 _ hA15 (i43 _) (len43 _) (ET.one _) ?_; intro w9 hA9 hb9 hs9; clear hs9))
            refine bodyPost_ret (results_at rfl _ _ w.heap.size 43 y.cells _ rfl hA9 Tryz.underlying43 rfl (i43 _)) rfl ?_
            exact ⟨y, rfl, he, (hT.but hb9 (.inl (by omega))).low (by omega), hR5.but hb9 hB, ((But.of_below hB4).trans hb5).fresh hb9 (Nat.le_refl _)⟩
        · rw [if_neg c4] at h
          have c5 : openOf T = 18 ∨ openOf T = 19 := by
            rcases open_cases T with e | e | e | e | e
            · exact absurd e c4
            · exact absurd (.inl e) c3
            · exact absurd (.inr e) c3
            · exact .inl e
            · exact .inr e
          cases hx : brkF f d l.tail with
          | none => rw [hx] at h; cases h
          | some Y =>
            rw [hx] at h
            have HC : Hid (∀ u, Rd B u g l.tail → w.heap.size ≤ u.heap.size → Calls Tryz.prog 141 #[.pointer (some ⟨g, 0, none⟩), .int .i64 (d : Int)] u fun r w' => PostX B g u Y r w') := fun u hu hs => hK d l.tail Y (by omega) hx B g u hu (by omega)
            have hh : Hid (∀ e r, some Y = some (.ok e r) → htX e ≤ 32) := fun e r hY => (read_ht f).2.2.2 d l.tail e r (hx.trans hY)
            clear hx HT HF hO hK hne c1 hR4 c3 c4
            rcases c5 with e | e
            all_goals
              rw [e] at h HO
              clear e
              go_wp2_with (first
                | (go_at_call 139; refine (HO _).mono ?_; rintro r u ⟨rfl, rfl⟩)
                | (go_at_call 93; refine hT4.mono ?_; rintro r w5 ⟨rfl, hR5, hb5⟩; refine Hid.out ?_))
              refine hidU ?_
              have hA45 := hb5.at hA4 (by omega)
              have hA15 := hb5.at hA14 (by omega)
              have l5 := hb5.size
              have hB5 : But g w w5 := (But.of_below hB4).trans hb5
              clear hT4 q0 q1 q2 q3 q4
              go_wp2_with fail
              have hS0 : At 64 w5.drew w2.heap.size (tok5 K ⟨T.toArray⟩ p vt b) := hA45.drew
              have hD0 : At 43 w5.drew w.heap.size [.int .u8 0, .int .u8 0, .int .u64 0, .string ⟨#[]⟩, .slice none 0 0] := hA15.drew
              have hR0 : Rd B w5.drew g l.tail := hR5.below (Below.drew (Below.refl _ _))
              have hB5 : But g w w5.drew := hB5.trans (But.of_below (Below.drew (Below.refl _ _)))
              refine wp_region_held_drew (S := fun x => At 64 x w2.heap.size (tok5 K ⟨T.toArray⟩ p vt b)) (by kernel_rfl) hS0 (fun _ => ?_)
              refine wpAnyH_take (i := 0) (oi := { dst := some 46, op := .fieldAddr 64 (.tmp 5) 2, type := _, pos := _, after := _, guard := none }) (v := .pointer (some ⟨w2.heap.size, 2, none⟩)) rfl (by kernel_rfl) (by kernel_rfl) (by kernel_rfl) (fun _ _ _ h => h) (Or.inl ⟨by rfl, ?_⟩) hS0 ?_
              · intro w hSw
                obtain ⟨q0, q1, q2, q3, q4⟩ := tk5_cells hSw
                go_simp
              simp only [Act.put, List.setIfInBounds_toArray, List.set_cons_zero, List.set_cons_succ]
              refine wpAnyH_take (i := 1) (oi := { dst := some 47, op := .load 3 (.tmp 46), type := _, pos := _, after := _, guard := none }) (v := .int .i64 (p : Int)) rfl (by kernel_rfl) (by kernel_rfl) (by kernel_rfl) (fun _ _ _ h => h) (Or.inl ⟨by rfl, ?_⟩) hS0 ?_
              · intro w hSw
                obtain ⟨q0, q1, q2, q3, q4⟩ := tk5_cells hSw
                go_simp
              simp only [Act.put, List.setIfInBounds_toArray, List.set_cons_zero, List.set_cons_succ]
            focus
              refine wpAnyH_take (i := 2) (oi := { dst := some 48, op := .move (.tmp 6), type := _, pos := _, after := _, guard := none }) (v := .int .u8 18) rfl (by kernel_rfl) (by kernel_rfl) (by kernel_rfl) (fun _ _ _ h => h) (Or.inl ⟨by rfl, ?_⟩) hS0 ?_
              · intro w hSw
                go_simp
            rotate_left
            focus
              refine wpAnyH_take (i := 2) (oi := { dst := some 48, op := .move (.tmp 6), type := _, pos := _, after := _, guard := none }) (v := .int .u8 19) rfl (by kernel_rfl) (by kernel_rfl) (by kernel_rfl) (fun _ _ _ h => h) (Or.inl ⟨by rfl, ?_⟩) hS0 ?_
              · intro w hSw
                go_simp
            rotate_left
            all_goals
              simp only [Act.put, List.setIfInBounds_toArray, List.set_cons_zero, List.set_cons_succ]
              refine wpAnyH_take (i := 3) (oi := { dst := some 49, op := .move (.tmp 0), type := _, pos := _, after := _, guard := none }) (v := .pointer (some ⟨g, 0, none⟩)) rfl (by kernel_rfl) (by kernel_rfl) (by kernel_rfl) (fun _ _ _ h => h) (Or.inl ⟨by rfl, ?_⟩) hS0 ?_
              · intro w hSw
                go_simp
              simp only [Act.put, List.setIfInBounds_toArray, List.set_cons_zero, List.set_cons_succ]
              refine wpAnyH_take (i := 4) (oi := { dst := some 50, op := .move (.tmp 1), type := _, pos := _, after := _, guard := none }) (v := .int .i64 (d : Int)) rfl (by kernel_rfl) (by kernel_rfl) (by kernel_rfl) (fun _ _ _ h => h) (Or.inl ⟨by rfl, ?_⟩) hS0 ?_
              · intro w hSw
                go_simp
              simp only [Act.put, List.setIfInBounds_toArray, List.set_cons_zero, List.set_cons_succ]
              refine wpAnyH_ready (rs := [5]) (by kernel_rfl) (by simp) ?_
              refine AllReadyH.cons (o := { dst := some 51, op := .call { callee := .value (.func 141), args := #[.tmp 49, .tmp 50], argTypes := #[66, 3] }, type := _, pos := _, after := _, guard := none }) rfl (fun KK hK => ?_) AllReadyH.nil
              rw [if_pos (by rfl)]
            · cases Y with
              | bad e q =>
                cases h
                go_wp2_with (go_at_call 141; refine (HC.out _ hR0 (by show _ ≤ w5.heap.size; omega)).mono ?_; rintro r w6 ⟨hr, hb6⟩; unfold PanW at hr; subst hr)
                exact ⟨rfl, rfl, hB5.trans hb6⟩
              | ok x r =>
                have hh := hh.out x r rfl
                have hR := Option.some.inj h
                unfold nodeR at hR
                clear h
                go_wp2_with (go_at_call 141; refine (HC.out _ hR0 (by show _ ≤ w5.heap.size; omega)).mono ?_; rintro _ w6 ⟨y, rfl, he, hT, hR6, hb6⟩)
                have hS6 : At 64 w6 w2.heap.size (tok5 K ⟨T.toArray⟩ p vt b) := hb6.at hS0 (by omega)
                have hD6 := hb6.at hD0 (by omega)
                have l6 : w5.heap.size ≤ w6.heap.size := hb6.size
                refine hK.out _ _ hS6 (fun _ => ?_)
                refine wpAnyH_ready (rs := [6]) (by kernel_rfl) (by simp) ?_
                refine AllReadyH.cons (o := { dst := some 52, op := .buildSlice 41 1 #[(0, .tmp 51)], type := _, pos := _, after := _, guard := none }) rfl (fun KK hK => ?_) AllReadyH.nil
                rw [if_pos (by rfl)]
                refine wp_kid1 (.tmp 51) rfl y rfl ?_
                intro w7 hA7 hb7 hs7
                have hS7 : At 64 w7 w2.heap.size (tok5 K ⟨T.toArray⟩ p vt b) := hS6.below hb7
                have hD7 := hD6.below hb7
                have hT7 := kid1_in (op := 18) hA7 (hT.below hb7) (by decide) l6
                have l7 := hb7.size
                refine hK.out _ _ hS7 (fun _ => ?_)
                have hN := node_any p 18 (some ⟨w6.heap.size, 0, none⟩) 1 [y] w7 hT7.1.1 (by
                  show htX (.mk 18 0 0 [] [y.ex]) ≤ 1048576
                  rw [he]
                  simp only [htX, htL]
                  omega)
                refine wpAnyH_ready (rs := [7]) (by kernel_rfl) (by simp) ?_
                refine AllReadyH.cons (o := { dst := some 53, op := .call { callee := .value (.func 109), args := #[.tmp 47, .tmp 48, .tmp 52], argTypes := #[3, 36, 41] }, type := _, pos := _, after := _, guard := none }) rfl (fun KK hK => ?_) AllReadyH.nil
                rw [if_pos (by rfl)]
                have ex : htX (ET.mk 18 0 0 ⟨#[]⟩ (some ⟨w6.heap.size, 0, none⟩) 1 [y]).ex = htX (.mk 18 0 0 [] [x]) := by rw [← he]; rfl
                rw [ex] at hN
                by_cases hht : 32 < htX (.mk 18 0 0 [] [x])
                · rw [if_pos hht] at hR
                  subst hR
                  go_wp2_with (go_at_call 109; refine hN.mono ?_; rintro r w8 ⟨hr, hb8⟩; rw [if_pos hht] at hr; unfold PanW at hr; subst hr)
                  exact ⟨rfl, rfl, ((hB5.trans hb6).trans (But.of_below hb7)).trans (But.of_below hb8)⟩
                · rw [if_neg hht] at hR
                  subst hR
                  go_wp2_with (go_at_call 109; refine hN.mono ?_; rintro r w8 ⟨hr, hb8⟩; rw [if_neg hht] at hr; subst hr)
                  have hS8 : At 64 w8 w2.heap.size (tok5 K ⟨T.toArray⟩ p vt b) := hS7.below hb8
                  have hD8 := hD7.below hb8
                  have hT8 := hT7.below hb8
                  have hR8 := (hR6.below hb7).below hb8
                  have hB8 : But g w w8 := ((hB5.trans hb6).trans (But.of_below hb7)).trans (But.of_below hb8)
                  have l8 := hb8.size
                  refine hK.out _ _ hS8 (fun _ => ?_)
                  refine wpAnyH_ready (rs := [8]) (by kernel_rfl) (by simp) ?_
                  refine AllReadyH.cons (o := { dst := none, op := .store 43 (.tmp 4) (.tmp 53), type := _, pos := _, after := _, guard := none }) rfl (fun KK hK => ?_) AllReadyH.nil
                  rw [if_pos (by rfl)]
                  refine wp_store_mid (P := Tryz.prog) 43 (.tmp 4) (.tmp 53) rfl w.heap.size 0 (ET.mk 18 0 0 ⟨#[]⟩ (some ⟨w6.heap.size, 0, none⟩) 1 [y]).cells.toArray rfl rfl (hD8.there 0 5 (by decide)) i29 (all_oneCell_toArray (ET.one (ET.mk 18 0 0 ⟨#[]⟩ (some ⟨w6.heap.size, 0, none⟩) 1 [y]))) ?_
                  have hbu : But w.heap.size w8 (w8.setCells w.heap.size 0 (ET.mk 18 0 0 ⟨#[]⟩ (some ⟨w6.heap.size, 0, none⟩) 1 [y]).cells) := (((((But.refl _ _).setCell 0 _).setCell 1 _).setCell 2 _).setCell 3 _).setCell 4 _
                  have hA9 : At 43 (w8.setCells w.heap.size 0 (ET.mk 18 0 0 ⟨#[]⟩ (some ⟨w6.heap.size, 0, none⟩) 1 [y]).cells) w.heap.size (ET.mk 18 0 0 ⟨#[]⟩ (some ⟨w6.heap.size, 0, none⟩) 1 [y]).cells := ((((hD8.set 0 _).set 1 _).set 2 _).set 3 _).set 4 _
                  have hS9 := hbu.at hS8 (by omega)
                  refine hK.out _ _ hS9 (fun _ => ?_)
                  refine wpAnyH_done (by kernel_rfl) ?_ _
                  go_wp2
                  refine bodyPost_ret (results_at rfl _ _ w.heap.size 43 (ET.mk 18 0 0 ⟨#[]⟩ (some ⟨w6.heap.size, 0, none⟩) 1 [y]).cells _ rfl hA9 Tryz.underlying43 rfl (i43 _)) rfl ?_
                  have ed : w5.drew.heap.size = w5.heap.size := rfl
                  exact ⟨(ET.mk 18 0 0 ⟨#[]⟩ (some ⟨w6.heap.size, 0, none⟩) 1 [y]), rfl, by rw [← he]; rfl, (hT8.but hbu (.inl (by omega))).low (by omega), hR8.but hbu hB, hB8.fresh hbu (Nat.le_refl _)⟩
            · cases Y with
              | bad e q =>
                cases h
                go_wp2_with (go_at_call 141; refine (HC.out _ hR0 (by show _ ≤ w5.heap.size; omega)).mono ?_; rintro r w6 ⟨hr, hb6⟩; unfold PanW at hr; subst hr)
                exact ⟨rfl, rfl, hB5.trans hb6⟩
              | ok x r =>
                have hh := hh.out x r rfl
                have hR := Option.some.inj h
                unfold nodeR at hR
                clear h
                go_wp2_with (go_at_call 141; refine (HC.out _ hR0 (by show _ ≤ w5.heap.size; omega)).mono ?_; rintro _ w6 ⟨y, rfl, he, hT, hR6, hb6⟩)
                have hS6 : At 64 w6 w2.heap.size (tok5 K ⟨T.toArray⟩ p vt b) := hb6.at hS0 (by omega)
                have hD6 := hb6.at hD0 (by omega)
                have l6 : w5.heap.size ≤ w6.heap.size := hb6.size
                refine hK.out _ _ hS6 (fun _ => ?_)
                refine wpAnyH_ready (rs := [6]) (by kernel_rfl) (by simp) ?_
                refine AllReadyH.cons (o := { dst := some 52, op := .buildSlice 41 1 #[(0, .tmp 51)], type := _, pos := _, after := _, guard := none }) rfl (fun KK hK => ?_) AllReadyH.nil
                rw [if_pos (by rfl)]
                refine wp_kid1 (.tmp 51) rfl y rfl ?_
                intro w7 hA7 hb7 hs7
                have hS7 : At 64 w7 w2.heap.size (tok5 K ⟨T.toArray⟩ p vt b) := hS6.below hb7
                have hD7 := hD6.below hb7
                have hT7 := kid1_in (op := 19) hA7 (hT.below hb7) (by decide) l6
                have l7 := hb7.size
                refine hK.out _ _ hS7 (fun _ => ?_)
                have hN := node_any p 19 (some ⟨w6.heap.size, 0, none⟩) 1 [y] w7 hT7.1.1 (by
                  show htX (.mk 19 0 0 [] [y.ex]) ≤ 1048576
                  rw [he]
                  simp only [htX, htL]
                  omega)
                refine wpAnyH_ready (rs := [7]) (by kernel_rfl) (by simp) ?_
                refine AllReadyH.cons (o := { dst := some 53, op := .call { callee := .value (.func 109), args := #[.tmp 47, .tmp 48, .tmp 52], argTypes := #[3, 36, 41] }, type := _, pos := _, after := _, guard := none }) rfl (fun KK hK => ?_) AllReadyH.nil
                rw [if_pos (by rfl)]
                have ex : htX (ET.mk 19 0 0 ⟨#[]⟩ (some ⟨w6.heap.size, 0, none⟩) 1 [y]).ex = htX (.mk 19 0 0 [] [x]) := by rw [← he]; rfl
                rw [ex] at hN
                by_cases hht : 32 < htX (.mk 19 0 0 [] [x])
                · rw [if_pos hht] at hR
                  subst hR
                  go_wp2_with (go_at_call 109; refine hN.mono ?_; rintro r w8 ⟨hr, hb8⟩; rw [if_pos hht] at hr; unfold PanW at hr; subst hr)
                  exact ⟨rfl, rfl, ((hB5.trans hb6).trans (But.of_below hb7)).trans (But.of_below hb8)⟩
                · rw [if_neg hht] at hR
                  subst hR
                  go_wp2_with (go_at_call 109; refine hN.mono ?_; rintro r w8 ⟨hr, hb8⟩; rw [if_neg hht] at hr; subst hr)
                  have hS8 : At 64 w8 w2.heap.size (tok5 K ⟨T.toArray⟩ p vt b) := hS7.below hb8
                  have hD8 := hD7.below hb8
                  have hT8 := hT7.below hb8
                  have hR8 := (hR6.below hb7).below hb8
                  have hB8 : But g w w8 := ((hB5.trans hb6).trans (But.of_below hb7)).trans (But.of_below hb8)
                  have l8 := hb8.size
                  refine hK.out _ _ hS8 (fun _ => ?_)
                  refine wpAnyH_ready (rs := [8]) (by kernel_rfl) (by simp) ?_
                  refine AllReadyH.cons (o := { dst := none, op := .store 43 (.tmp 4) (.tmp 53), type := _, pos := _, after := _, guard := none }) rfl (fun KK hK => ?_) AllReadyH.nil
                  rw [if_pos (by rfl)]
                  refine wp_store_mid (P := Tryz.prog) 43 (.tmp 4) (.tmp 53) rfl w.heap.size 0 (ET.mk 19 0 0 ⟨#[]⟩ (some ⟨w6.heap.size, 0, none⟩) 1 [y]).cells.toArray rfl rfl (hD8.there 0 5 (by decide)) i29 (all_oneCell_toArray (ET.one (ET.mk 19 0 0 ⟨#[]⟩ (some ⟨w6.heap.size, 0, none⟩) 1 [y]))) ?_
                  have hbu : But w.heap.size w8 (w8.setCells w.heap.size 0 (ET.mk 19 0 0 ⟨#[]⟩ (some ⟨w6.heap.size, 0, none⟩) 1 [y]).cells) := (((((But.refl _ _).setCell 0 _).setCell 1 _).setCell 2 _).setCell 3 _).setCell 4 _
                  have hA9 : At 43 (w8.setCells w.heap.size 0 (ET.mk 19 0 0 ⟨#[]⟩ (some ⟨w6.heap.size, 0, none⟩) 1 [y]).cells) w.heap.size (ET.mk 19 0 0 ⟨#[]⟩ (some ⟨w6.heap.size, 0, none⟩) 1 [y]).cells := ((((hD8.set 0 _).set 1 _).set 2 _).set 3 _).set 4 _
                  have hS9 := hbu.at hS8 (by omega)
                  refine hK.out _ _ hS9 (fun _ => ?_)
                  refine wpAnyH_done (by kernel_rfl) ?_ _
                  go_wp2
                  refine bodyPost_ret (results_at rfl _ _ w.heap.size 43 (ET.mk 19 0 0 ⟨#[]⟩ (some ⟨w6.heap.size, 0, none⟩) 1 [y]).cells _ rfl hA9 Tryz.underlying43 rfl (i43 _)) rfl ?_
                  have ed : w5.drew.heap.size = w5.heap.size := rfl
                  exact ⟨(ET.mk 19 0 0 ⟨#[]⟩ (some ⟨w6.heap.size, 0, none⟩) 1 [y]), rfl, by rw [← he]; rfl, (hT8.but hbu (.inl (by omega))).low (by omega), hR8.but hbu hB, hB8.fresh hbu (Nat.le_refl _)⟩
end Go.Proofs.YtjgggmjjikopeaaGreatDoor
