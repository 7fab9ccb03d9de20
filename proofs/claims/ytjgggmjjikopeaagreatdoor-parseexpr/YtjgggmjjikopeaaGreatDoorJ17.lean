/- The document's reader: a name. -/
import Derived.Test.YtjgggmjjikopeaaGreatDoorJ16
namespace Go.Proofs.YtjgggmjjikopeaaGreatDoor
open Go.RowKit
set_option linter.unusedVariables false

theorem tk5_mid {w : World} {g o : Nat} {K : Nat} {S : ByteArray} {p vt b : Nat} (h : w.rangeAt g o (tok5 K S p vt b)) : w.cell? ⟨g, o, none⟩ = some (.int .i64 (K : Int)) ∧ w.cell? ⟨g, o + 1, none⟩ = some (.string S) ∧ w.cell? ⟨g, o + 2, none⟩ = some (.int .i64 (p : Int)) ∧ w.cell? ⟨g, o + 3, none⟩ = some (.int .u8 (vt : Int)) ∧ w.cell? ⟨g, o + 4, none⟩ = some (.int .u64 (b : Int)) := ⟨h 0 _ rfl, h 1 _ rfl, h 2 _ rfl, h 3 _ rfl, h 4 _ rfl⟩
theorem rd_ne {B : Nat} {w : World} {g gt : Nat} {L : List Tk} {c k en er pl ne bl : Nat} (h : Qd B w g L (some ⟨gt, 0, none⟩) c k en er pl ne bl) (hk : k < L.length) : gt ≠ g := by
  rcases h.toks with q | ⟨gt', h1, h2, h3, h4⟩
  · rw [q] at hk; simp at hk
  · cases h1
    exact h2
/-- What the document's 'name' tells. -/
def NmOf (R : Rs (List UInt8)) : List UInt8 := match R with | .ok x _ => x | .bad _ _ => []

set_option maxRecDepth 100000 in
set_option maxHeartbeats 12800000 in
theorem refReadName_ok {B : Nat} (g : Nat) (L : List Tk) (a : Option Addr) (c k en ne bl : Nat) (w : World) (h : Qd B w g L a c k en 0 0 ne bl) (hBw : B ≤ w.heap.size) :
    Calls Tryz.prog 66 #[.pointer (some ⟨g, 0, none⟩)] w fun r w' => r = .returned (.string ⟨(NmOf (nameR (aheadT L k en))).toArray⟩) ∧ QPost B g L a c en ne bl (nameR (aheadT L k en)) w' ∧ But g w w' := by
  have HN : Hid (∀ u, Qd B u g L a c k en 0 0 ne bl → Calls Tryz.prog 41 #[.pointer (some ⟨g, 0, none⟩)] u fun r w' => r = .returned (.int .i64 ((hdT (aheadT L k en)).place : Int)) ∧ ∃ m, w' = u.drewN m) := fun u hu => here_any g L a c k en 0 0 ne bl u hu
  have HB : Hid (∀ u, Qd B u g L a c k en 0 0 ne bl → Calls Tryz.prog 40 #[.pointer (some ⟨g, 0, none⟩), .int .i64 4, .int .i64 ((hdT (aheadT L k en)).place : Int)] u fun r w' => r = .returned (.tuple #[]) ∧ Qd B w' g L a c L.length en 4 (hdT (aheadT L k en)).place ne bl ∧ But g u w') := fun u hu => by
    have := bad_any g L a c k en 0 0 ne bl 4 (hdT (aheadT L k en)).place u hu
    simpa using this
  have HQ : Hid (Qd B w g L a c k en 0 0 ne bl) := h
  have hA := h.cell
  have hlen := h.len
  have hle := h.le
  by_cases hk : k < L.length
  · obtain ⟨gt, t, rfl, ht, hr, hd, hgB⟩ := rd_tok h hk
    have htl := (ahead_at (en := en) ht).2
    have hgn := rd_ne h hk
    have hNm := fun u => refName_any ⟨t.text.toArray⟩ u
    have hgt : gt < w.drew.heap.size := Nat.lt_of_lt_of_le hgB hBw
    unfold nameR
    rw [hd] at HN HB ⊢
    rw [htl]
    clear htl hd h
    obtain ⟨K, T, p, b⟩ := t
    have hr : w.rangeAt gt (k * 5) (tok5 K ⟨T.toArray⟩ p (valT K) b) := hr
    have hNm : ∀ u, Calls Tryz.prog 103 #[.string ⟨T.toArray⟩] u fun r w' => r = .returned (.bool (isNm T)) ∧ Below u.heap.size u w' := hNm
    dsimp only at HN HB ⊢
    generalize valT K = vt at *
    generalize hn : L.length = n at *
    cases hx : isNm T with
    | true =>
      rw [hx] at hNm
      rw [if_pos rfl]
      clear HN HB hx
      go_enter Tryz.func66, Tryz.ntmps66
      go_wp2_with fail
      have hS0 : At 71 w.drew g (q7 (some ⟨gt, 0, none⟩) n c k en 0 0 ne bl) ∧ w.drew.rangeAt gt (k * 5) (tok5 K ⟨T.toArray⟩ p vt b) := ⟨hA.drew, hr⟩
      refine wp_region_held_drew (S := fun x => At 71 x g (q7 (some ⟨gt, 0, none⟩) n c k en 0 0 ne bl) ∧ x.rangeAt gt (k * 5) (tok5 K ⟨T.toArray⟩ p vt b)) (by kernel_rfl) hS0 (fun _ => ?_)
      refine wpAnyH_take (i := 0) (oi := { dst := some 3, op := .move (.tmp 0), type := _, pos := _, after := _, guard := none }) (v := .pointer (some ⟨g, 0, none⟩)) rfl (by kernel_rfl) (by kernel_rfl) (by kernel_rfl) (fun _ _ _ h => h) (Or.inl ⟨by rfl, ?_⟩) hS0 ?_
      · intro w hSw
        go_simp
      simp only [Act.put, List.setIfInBounds_toArray, List.set_cons_zero, List.set_cons_succ]
      refine wpAnyH_ready (rs := [1]) (by kernel_rfl) (by simp) ?_
      refine AllReadyH.cons (o := { dst := some 4, op := .call { callee := .value (.func 30), args := #[.tmp 3], argTypes := #[69] }, type := _, pos := _, after := _, guard := none }) rfl (fun KK hK => ?_) AllReadyH.nil
      rw [if_pos (by rfl)]
      go_wp2_with (go_at_call 30; refine (refOk_any g n (some ⟨gt, 0, none⟩) c k en 0 0 ne bl _ hS0.1).mono ?_; rintro r u ⟨rfl, hu⟩; obtain rfl := hu.symm)
      refine hK.out _ _ hS0 (fun _ => ?_)
      refine wpAnyH_take (i := 2) (oi := { dst := some 5, op := .move (.tmp 4), type := _, pos := _, after := _, guard := none }) (v := .bool true) rfl (by kernel_rfl) (by kernel_rfl) (by kernel_rfl) (fun _ _ _ h => h) (Or.inl ⟨by rfl, ?_⟩) hS0 ?_
      · intro w hSw
        go_simp
      simp only [Act.put, List.setIfInBounds_toArray, List.set_cons_zero, List.set_cons_succ]
      refine wpAnyH_take (i := 3) (oi := { dst := some 6, op := .move (.tmp 0), type := _, pos := _, after := _, guard := some (2, true) }) (v := .pointer (some ⟨g, 0, none⟩)) rfl (by kernel_rfl) (by kernel_rfl) (by kernel_rfl) (fun _ _ _ h => h) (Or.inl ⟨by rfl, ?_⟩) hS0 ?_
      · intro w hSw
        go_simp
      simp only [Act.put, List.setIfInBounds_toArray, List.set_cons_zero, List.set_cons_succ]
      refine wpAnyH_take (i := 4) (oi := { dst := some 7, op := .nilCheck (.tmp 6), type := _, pos := _, after := _, guard := some (2, true) }) (v := .pointer (some ⟨g, 0, none⟩)) rfl (by kernel_rfl) (by kernel_rfl) (by kernel_rfl) (fun _ _ _ h => h) (Or.inl ⟨by rfl, ?_⟩) hS0 ?_
      · intro w hSw
        go_simp
      simp only [Act.put, List.setIfInBounds_toArray, List.set_cons_zero, List.set_cons_succ]
      refine wpAnyH_take (i := 5) (oi := { dst := some 8, op := .fieldAddr 71 (.tmp 7) 1, type := _, pos := _, after := _, guard := some (2, true) }) (v := .pointer (some ⟨g, 1, none⟩)) rfl (by kernel_rfl) (by kernel_rfl) (by kernel_rfl) (fun _ _ _ h => h) (Or.inl ⟨by rfl, ?_⟩) hS0 ?_
      · intro w hSw
        obtain ⟨q0, q1, q2, q3, q4, q5, q6⟩ := q7_cells hSw.1
        go_simp
      simp only [Act.put, List.setIfInBounds_toArray, List.set_cons_zero, List.set_cons_succ]
      refine wpAnyH_take (i := 6) (oi := { dst := some 9, op := .load 3 (.tmp 8), type := _, pos := _, after := _, guard := some (2, true) }) (v := .int .i64 (k : Int)) rfl (by kernel_rfl) (by kernel_rfl) (by kernel_rfl) (fun _ _ _ h => h) (Or.inl ⟨by rfl, ?_⟩) hS0 ?_
      · intro w hSw
        obtain ⟨q0, q1, q2, q3, q4, q5, q6⟩ := q7_cells hSw.1
        go_simp
      simp only [Act.put, List.setIfInBounds_toArray, List.set_cons_zero, List.set_cons_succ]
      refine wpAnyH_take (i := 7) (oi := { dst := some 10, op := .move (.tmp 0), type := _, pos := _, after := _, guard := some (2, true) }) (v := .pointer (some ⟨g, 0, none⟩)) rfl (by kernel_rfl) (by kernel_rfl) (by kernel_rfl) (fun _ _ _ h => h) (Or.inl ⟨by rfl, ?_⟩) hS0 ?_
      · intro w hSw
        go_simp
      simp only [Act.put, List.setIfInBounds_toArray, List.set_cons_zero, List.set_cons_succ]
      refine wpAnyH_take (i := 8) (oi := { dst := some 11, op := .nilCheck (.tmp 10), type := _, pos := _, after := _, guard := some (2, true) }) (v := .pointer (some ⟨g, 0, none⟩)) rfl (by kernel_rfl) (by kernel_rfl) (by kernel_rfl) (fun _ _ _ h => h) (Or.inl ⟨by rfl, ?_⟩) hS0 ?_
      · intro w hSw
        go_simp
      simp only [Act.put, List.setIfInBounds_toArray, List.set_cons_zero, List.set_cons_succ]
      refine wpAnyH_take (i := 9) (oi := { dst := some 12, op := .fieldAddr 71 (.tmp 11) 0, type := _, pos := _, after := _, guard := some (2, true) }) (v := .pointer (some ⟨g, 0, none⟩)) rfl (by kernel_rfl) (by kernel_rfl) (by kernel_rfl) (fun _ _ _ h => h) (Or.inl ⟨by rfl, ?_⟩) hS0 ?_
      · intro w hSw
        obtain ⟨q0, q1, q2, q3, q4, q5, q6⟩ := q7_cells hSw.1
        go_simp
      simp only [Act.put, List.setIfInBounds_toArray, List.set_cons_zero, List.set_cons_succ]
      refine wpAnyH_take (i := 10) (oi := { dst := some 13, op := .load 60 (.tmp 12), type := _, pos := _, after := _, guard := some (2, true) }) (v := .slice (some ⟨gt, 0, none⟩) n c) rfl (by kernel_rfl) (by kernel_rfl) (by kernel_rfl) (fun _ _ _ h => h) (Or.inl ⟨by rfl, ?_⟩) hS0 ?_
      · intro w hSw
        obtain ⟨q0, q1, q2, q3, q4, q5, q6⟩ := q7_cells hSw.1
        go_simp
      simp only [Act.put, List.setIfInBounds_toArray, List.set_cons_zero, List.set_cons_succ]
      refine wpAnyH_take (i := 11) (oi := { dst := some 14, op := .call { callee := .builtin .len, args := #[.tmp 13], argTypes := #[60] }, type := _, pos := _, after := _, guard := some (2, true) }) (v := .int .i64 (n : Int)) rfl (by kernel_rfl) (by kernel_rfl) (by kernel_rfl) (fun _ _ _ h => h) (Or.inl ⟨by rfl, ?_⟩) hS0 ?_
      · intro w hSw
        go_simp
      simp only [Act.put, List.setIfInBounds_toArray, List.set_cons_zero, List.set_cons_succ]
      refine wpAnyH_take (i := 12) (oi := { dst := some 15, op := .binOp .lss 3 (.tmp 9) (.tmp 14) 3, type := _, pos := _, after := _, guard := some (2, true) }) (v := .bool true) rfl (by kernel_rfl) (by kernel_rfl) (by kernel_rfl) (fun _ _ _ h => h) (Or.inl ⟨by rfl, ?_⟩) hS0 ?_
      · intro w hSw
        go_simp
      simp only [Act.put, List.setIfInBounds_toArray, List.set_cons_zero, List.set_cons_succ]
      refine wpAnyH_take (i := 13) (oi := { dst := some 16, op := .pick (.tmp 5) (.tmp 15) (.const (.bool false)), type := _, pos := _, after := _, guard := none }) (v := .bool true) rfl (by kernel_rfl) (by kernel_rfl) (by kernel_rfl) (fun _ _ _ h => h) (Or.inl ⟨by rfl, ?_⟩) hS0 ?_
      · intro w hSw
        go_simp
      simp only [Act.put, List.setIfInBounds_toArray, List.set_cons_zero, List.set_cons_succ]
      refine wpAnyH_take (i := 14) (oi := { dst := some 17, op := .move (.tmp 16), type := _, pos := _, after := _, guard := none }) (v := .bool true) rfl (by kernel_rfl) (by kernel_rfl) (by kernel_rfl) (fun _ _ _ h => h) (Or.inl ⟨by rfl, ?_⟩) hS0 ?_
      · intro w hSw
        go_simp
      simp only [Act.put, List.setIfInBounds_toArray, List.set_cons_zero, List.set_cons_succ]
      refine wpAnyH_take (i := 15) (oi := { dst := some 18, op := .move (.tmp 0), type := _, pos := _, after := _, guard := some (14, true) }) (v := .pointer (some ⟨g, 0, none⟩)) rfl (by kernel_rfl) (by kernel_rfl) (by kernel_rfl) (fun _ _ _ h => h) (Or.inl ⟨by rfl, ?_⟩) hS0 ?_
      · intro w hSw
        go_simp
      simp only [Act.put, List.setIfInBounds_toArray, List.set_cons_zero, List.set_cons_succ]
      refine wpAnyH_take (i := 16) (oi := { dst := some 19, op := .nilCheck (.tmp 18), type := _, pos := _, after := _, guard := some (14, true) }) (v := .pointer (some ⟨g, 0, none⟩)) rfl (by kernel_rfl) (by kernel_rfl) (by kernel_rfl) (fun _ _ _ h => h) (Or.inl ⟨by rfl, ?_⟩) hS0 ?_
      · intro w hSw
        go_simp
      simp only [Act.put, List.setIfInBounds_toArray, List.set_cons_zero, List.set_cons_succ]
      refine wpAnyH_take (i := 17) (oi := { dst := some 20, op := .fieldAddr 71 (.tmp 19) 0, type := _, pos := _, after := _, guard := some (14, true) }) (v := .pointer (some ⟨g, 0, none⟩)) rfl (by kernel_rfl) (by kernel_rfl) (by kernel_rfl) (fun _ _ _ h => h) (Or.inl ⟨by rfl, ?_⟩) hS0 ?_
      · intro w hSw
        obtain ⟨q0, q1, q2, q3, q4, q5, q6⟩ := q7_cells hSw.1
        go_simp
      simp only [Act.put, List.setIfInBounds_toArray, List.set_cons_zero, List.set_cons_succ]
      refine wpAnyH_take (i := 18) (oi := { dst := some 21, op := .load 60 (.tmp 20), type := _, pos := _, after := _, guard := some (14, true) }) (v := .slice (some ⟨gt, 0, none⟩) n c) rfl (by kernel_rfl) (by kernel_rfl) (by kernel_rfl) (fun _ _ _ h => h) (Or.inl ⟨by rfl, ?_⟩) hS0 ?_
      · intro w hSw
        obtain ⟨q0, q1, q2, q3, q4, q5, q6⟩ := q7_cells hSw.1
        go_simp
      simp only [Act.put, List.setIfInBounds_toArray, List.set_cons_zero, List.set_cons_succ]
      refine wpAnyH_take (i := 19) (oi := { dst := some 22, op := .move (.tmp 0), type := _, pos := _, after := _, guard := some (14, true) }) (v := .pointer (some ⟨g, 0, none⟩)) rfl (by kernel_rfl) (by kernel_rfl) (by kernel_rfl) (fun _ _ _ h => h) (Or.inl ⟨by rfl, ?_⟩) hS0 ?_
      · intro w hSw
        go_simp
      simp only [Act.put, List.setIfInBounds_toArray, List.set_cons_zero, List.set_cons_succ]
      refine wpAnyH_take (i := 20) (oi := { dst := some 23, op := .nilCheck (.tmp 22), type := _, pos := _, after := _, guard := some (14, true) }) (v := .pointer (some ⟨g, 0, none⟩)) rfl (by kernel_rfl) (by kernel_rfl) (by kernel_rfl) (fun _ _ _ h => h) (Or.inl ⟨by rfl, ?_⟩) hS0 ?_
      · intro w hSw
        go_simp
      simp only [Act.put, List.setIfInBounds_toArray, List.set_cons_zero, List.set_cons_succ]
      refine wpAnyH_take (i := 21) (oi := { dst := some 24, op := .fieldAddr 71 (.tmp 23) 1, type := _, pos := _, after := _, guard := some (14, true) }) (v := .pointer (some ⟨g, 1, none⟩)) rfl (by kernel_rfl) (by kernel_rfl) (by kernel_rfl) (fun _ _ _ h => h) (Or.inl ⟨by rfl, ?_⟩) hS0 ?_
      · intro w hSw
        obtain ⟨q0, q1, q2, q3, q4, q5, q6⟩ := q7_cells hSw.1
        go_simp
      simp only [Act.put, List.setIfInBounds_toArray, List.set_cons_zero, List.set_cons_succ]
      refine wpAnyH_take (i := 22) (oi := { dst := some 25, op := .load 3 (.tmp 24), type := _, pos := _, after := _, guard := some (14, true) }) (v := .int .i64 (k : Int)) rfl (by kernel_rfl) (by kernel_rfl) (by kernel_rfl) (fun _ _ _ h => h) (Or.inl ⟨by rfl, ?_⟩) hS0 ?_
      · intro w hSw
        obtain ⟨q0, q1, q2, q3, q4, q5, q6⟩ := q7_cells hSw.1
        go_simp
      simp only [Act.put, List.setIfInBounds_toArray, List.set_cons_zero, List.set_cons_succ]
      refine wpAnyH_take (i := 23) (oi := { dst := some 26, op := .indexAddr 60 (.tmp 21) (.tmp 25), type := _, pos := _, after := _, guard := some (14, true) }) (v := .pointer (some ⟨gt, k * 5, none⟩)) rfl (by kernel_rfl) (by kernel_rfl) (by kernel_rfl) (fun _ _ _ h => h) (Or.inl ⟨by rfl, ?_⟩) hS0 ?_
      · intro w hSw
        go_simp
      simp only [Act.put, List.setIfInBounds_toArray, List.set_cons_zero, List.set_cons_succ]
      refine wpAnyH_take (i := 24) (oi := { dst := some 27, op := .fieldAddr 64 (.tmp 26) 1, type := _, pos := _, after := _, guard := some (14, true) }) (v := .pointer (some ⟨gt, k * 5 + 1, none⟩)) rfl (by kernel_rfl) (by kernel_rfl) (by kernel_rfl) (fun _ _ _ h => h) (Or.inl ⟨by rfl, ?_⟩) hS0 ?_
      · intro w hSw
        go_simp
      simp only [Act.put, List.setIfInBounds_toArray, List.set_cons_zero, List.set_cons_succ]
      refine wpAnyH_take (i := 25) (oi := { dst := some 28, op := .load 9 (.tmp 27), type := _, pos := _, after := _, guard := some (14, true) }) (v := .string ⟨T.toArray⟩) rfl (by kernel_rfl) (by kernel_rfl) (by kernel_rfl) (fun _ _ _ h => h) (Or.inl ⟨by rfl, ?_⟩) hS0 ?_
      · intro w hSw
        obtain ⟨q0, q1, q2, q3, q4, q5, q6⟩ := q7_cells hSw.1
        obtain ⟨t0, t1, t2, t3, t4⟩ := tk5_mid hSw.2
        go_simp
      simp only [Act.put, List.setIfInBounds_toArray, List.set_cons_zero, List.set_cons_succ]
      refine wpAnyH_ready (rs := [26]) (by kernel_rfl) (by simp) ?_
      refine AllReadyH.cons (o := { dst := some 29, op := .call { callee := .value (.func 103), args := #[.tmp 28], argTypes := #[9] }, type := _, pos := _, after := _, guard := some (14, true) }) rfl (fun KK hK => ?_) AllReadyH.nil
      rw [if_pos (by rfl)]
      go_wp2_with (go_at_call 103; refine (hNm _).mono ?_; rintro r w1 ⟨rfl, hb1⟩)
      have hS1 : At 71 w1 g (q7 (some ⟨gt, 0, none⟩) n c k en 0 0 ne bl) ∧ w1.rangeAt gt (k * 5) (tok5 K ⟨T.toArray⟩ p vt b) := ⟨hS0.1.below hb1, fun j v hj => by rw [World.cell?_of_block (w := w.drew) (hb1.block gt hgt)]; exact hS0.2 j v hj⟩
      have hB1 : Below w.heap.size w w1 := (Below.drew (Below.refl _ _)).trans (hb1.mono (Nat.le_refl _))
      refine hK.out _ _ hS1 (fun _ => ?_)
      refine wpAnyH_take (i := 27) (oi := { dst := some 30, op := .pick (.tmp 17) (.tmp 29) (.const (.bool false)), type := _, pos := _, after := _, guard := none }) (v := .bool true) rfl (by kernel_rfl) (by kernel_rfl) (by kernel_rfl) (fun _ _ _ h => h) (Or.inl ⟨by rfl, ?_⟩) hS1 ?_
      · intro w hSw
        go_simp
      simp only [Act.put, List.setIfInBounds_toArray, List.set_cons_zero, List.set_cons_succ]
      refine wpAnyH_done (by kernel_rfl) ?_ _
      obtain ⟨q0, q1, q2, q3, q4, q5, q6⟩ := q7_cells hS1.1
      go_wp2_with (first
        | ((with_reducible show wpList _ _ _ _ _ _); refine wpList_store_one (P := Tryz.prog) rfl 3 (.tmp 37) (.tmp 35) rfl g 1 (.int .i64 ((k : Int) + 1)) rfl rfl 71 _ hS1.1 (show 1 + 1 ≤ 7 by decide) i3 rfl rfl ?_; intro w2 hA2 hb2 hs; clear hs; refine Hid.out ?_))
      refine hidU ?_
      have hA2 : At 71 w2 g (q7 (some ⟨gt, 0, none⟩) n c (k + 1) en 0 0 ne bl) := hA2
      clear q0 q1 q2 q3 q4 q5 q6
      obtain ⟨q0, q1, q2, q3, q4, q5, q6⟩ := q7_cells hA2
      have hr2 : w2.rangeAt gt (k * 5) (tok5 K ⟨T.toArray⟩ p vt b) := fun j v hj => by
        rw [World.cell?_of_block (w := w1) (hb2.block gt (Nat.lt_of_lt_of_le hgB (Nat.le_trans hBw hB1.size)) hgn)]
        exact hS1.2 j v hj
      obtain ⟨t0, t1, t2, t3, t4⟩ := tk5_mid hr2
      go_wp2_with fail
      go_quiet (fail)
      go_wp2
      go_ret
      subst hn
      exact ⟨rfl, ⟨k + 1, rfl, ((HQ.out.below hB1).set hA2 hb2 hk).drewN nq⟩, ((But.of_below hB1).trans hb2).drewN nq⟩
    | false =>
      rw [hx] at hNm
      rw [if_neg (by decide)]
      go_enter Tryz.func66, Tryz.ntmps66
      go_wp2_with fail
      have hS0 : At 71 w.drew g (q7 (some ⟨gt, 0, none⟩) n c k en 0 0 ne bl) ∧ w.drew.rangeAt gt (k * 5) (tok5 K ⟨T.toArray⟩ p vt b) := ⟨hA.drew, hr⟩
      refine wp_region_held_drew (S := fun x => At 71 x g (q7 (some ⟨gt, 0, none⟩) n c k en 0 0 ne bl) ∧ x.rangeAt gt (k * 5) (tok5 K ⟨T.toArray⟩ p vt b)) (by kernel_rfl) hS0 (fun _ => ?_)
      refine wpAnyH_take (i := 0) (oi := { dst := some 3, op := .move (.tmp 0), type := _, pos := _, after := _, guard := none }) (v := .pointer (some ⟨g, 0, none⟩)) rfl (by kernel_rfl) (by kernel_rfl) (by kernel_rfl) (fun _ _ _ h => h) (Or.inl ⟨by rfl, ?_⟩) hS0 ?_
      · intro w hSw
        go_simp
      simp only [Act.put, List.setIfInBounds_toArray, List.set_cons_zero, List.set_cons_succ]
      refine wpAnyH_ready (rs := [1]) (by kernel_rfl) (by simp) ?_
      refine AllReadyH.cons (o := { dst := some 4, op := .call { callee := .value (.func 30), args := #[.tmp 3], argTypes := #[69] }, type := _, pos := _, after := _, guard := none }) rfl (fun KK hK => ?_) AllReadyH.nil
      rw [if_pos (by rfl)]
      go_wp2_with (go_at_call 30; refine (refOk_any g n (some ⟨gt, 0, none⟩) c k en 0 0 ne bl _ hS0.1).mono ?_; rintro r u ⟨rfl, hu⟩; obtain rfl := hu.symm)
      refine hK.out _ _ hS0 (fun _ => ?_)
      refine wpAnyH_take (i := 2) (oi := { dst := some 5, op := .move (.tmp 4), type := _, pos := _, after := _, guard := none }) (v := .bool true) rfl (by kernel_rfl) (by kernel_rfl) (by kernel_rfl) (fun _ _ _ h => h) (Or.inl ⟨by rfl, ?_⟩) hS0 ?_
      · intro w hSw
        go_simp
      simp only [Act.put, List.setIfInBounds_toArray, List.set_cons_zero, List.set_cons_succ]
      refine wpAnyH_take (i := 3) (oi := { dst := some 6, op := .move (.tmp 0), type := _, pos := _, after := _, guard := some (2, true) }) (v := .pointer (some ⟨g, 0, none⟩)) rfl (by kernel_rfl) (by kernel_rfl) (by kernel_rfl) (fun _ _ _ h => h) (Or.inl ⟨by rfl, ?_⟩) hS0 ?_
      · intro w hSw
        go_simp
      simp only [Act.put, List.setIfInBounds_toArray, List.set_cons_zero, List.set_cons_succ]
      refine wpAnyH_take (i := 4) (oi := { dst := some 7, op := .nilCheck (.tmp 6), type := _, pos := _, after := _, guard := some (2, true) }) (v := .pointer (some ⟨g, 0, none⟩)) rfl (by kernel_rfl) (by kernel_rfl) (by kernel_rfl) (fun _ _ _ h => h) (Or.inl ⟨by rfl, ?_⟩) hS0 ?_
      · intro w hSw
        go_simp
      simp only [Act.put, List.setIfInBounds_toArray, List.set_cons_zero, List.set_cons_succ]
      refine wpAnyH_take (i := 5) (oi := { dst := some 8, op := .fieldAddr 71 (.tmp 7) 1, type := _, pos := _, after := _, guard := some (2, true) }) (v := .pointer (some ⟨g, 1, none⟩)) rfl (by kernel_rfl) (by kernel_rfl) (by kernel_rfl) (fun _ _ _ h => h) (Or.inl ⟨by rfl, ?_⟩) hS0 ?_
      · intro w hSw
        obtain ⟨q0, q1, q2, q3, q4, q5, q6⟩ := q7_cells hSw.1
        go_simp
      simp only [Act.put, List.setIfInBounds_toArray, List.set_cons_zero, List.set_cons_succ]
      refine wpAnyH_take (i := 6) (oi := { dst := some 9, op := .load 3 (.tmp 8), type := _, pos := _, after := _, guard := some (2, true) }) (v := .int .i64 (k : Int)) rfl (by kernel_rfl) (by kernel_rfl) (by kernel_rfl) (fun _ _ _ h => h) (Or.inl ⟨by rfl, ?_⟩) hS0 ?_
      · intro w hSw
        obtain ⟨q0, q1, q2, q3, q4, q5, q6⟩ := q7_cells hSw.1
        go_simp
      simp only [Act.put, List.setIfInBounds_toArray, List.set_cons_zero, List.set_cons_succ]
      refine wpAnyH_take (i := 7) (oi := { dst := some 10, op := .move (.tmp 0), type := _, pos := _, after := _, guard := some (2, true) }) (v := .pointer (some ⟨g, 0, none⟩)) rfl (by kernel_rfl) (by kernel_rfl) (by kernel_rfl) (fun _ _ _ h => h) (Or.inl ⟨by rfl, ?_⟩) hS0 ?_
      · intro w hSw
        go_simp
      simp only [Act.put, List.setIfInBounds_toArray, List.set_cons_zero, List.set_cons_succ]
      refine wpAnyH_take (i := 8) (oi := { dst := some 11, op := .nilCheck (.tmp 10), type := _, pos := _, after := _, guard := some (2, true) }) (v := .pointer (some ⟨g, 0, none⟩)) rfl (by kernel_rfl) (by kernel_rfl) (by kernel_rfl) (fun _ _ _ h => h) (Or.inl ⟨by rfl, ?_⟩) hS0 ?_
      · intro w hSw
        go_simp
      simp only [Act.put, List.setIfInBounds_toArray, List.set_cons_zero, List.set_cons_succ]
      refine wpAnyH_take (i := 9) (oi := { dst := some 12, op := .fieldAddr 71 (.tmp 11) 0, type := _, pos := _, after := _, guard := some (2, true) }) (v := .pointer (some ⟨g, 0, none⟩)) rfl (by kernel_rfl) (by kernel_rfl) (by kernel_rfl) (fun _ _ _ h => h) (Or.inl ⟨by rfl, ?_⟩) hS0 ?_
      · intro w hSw
        obtain ⟨q0, q1, q2, q3, q4, q5, q6⟩ := q7_cells hSw.1
        go_simp
      simp only [Act.put, List.setIfInBounds_toArray, List.set_cons_zero, List.set_cons_succ]
      refine wpAnyH_take (i := 10) (oi := { dst := some 13, op := .load 60 (.tmp 12), type := _, pos := _, after := _, guard := some (2, true) }) (v := .slice (some ⟨gt, 0, none⟩) n c) rfl (by kernel_rfl) (by kernel_rfl) (by kernel_rfl) (fun _ _ _ h => h) (Or.inl ⟨by rfl, ?_⟩) hS0 ?_
      · intro w hSw
        obtain ⟨q0, q1, q2, q3, q4, q5, q6⟩ := q7_cells hSw.1
        go_simp
      simp only [Act.put, List.setIfInBounds_toArray, List.set_cons_zero, List.set_cons_succ]
      refine wpAnyH_take (i := 11) (oi := { dst := some 14, op := .call { callee := .builtin .len, args := #[.tmp 13], argTypes := #[60] }, type := _, pos := _, after := _, guard := some (2, true) }) (v := .int .i64 (n : Int)) rfl (by kernel_rfl) (by kernel_rfl) (by kernel_rfl) (fun _ _ _ h => h) (Or.inl ⟨by rfl, ?_⟩) hS0 ?_
      · intro w hSw
        go_simp
      simp only [Act.put, List.setIfInBounds_toArray, List.set_cons_zero, List.set_cons_succ]
      refine wpAnyH_take (i := 12) (oi := { dst := some 15, op := .binOp .lss 3 (.tmp 9) (.tmp 14) 3, type := _, pos := _, after := _, guard := some (2, true) }) (v := .bool true) rfl (by kernel_rfl) (by kernel_rfl) (by kernel_rfl) (fun _ _ _ h => h) (Or.inl ⟨by rfl, ?_⟩) hS0 ?_
      · intro w hSw
        go_simp
      simp only [Act.put, List.setIfInBounds_toArray, List.set_cons_zero, List.set_cons_succ]
      refine wpAnyH_take (i := 13) (oi := { dst := some 16, op := .pick (.tmp 5) (.tmp 15) (.const (.bool false)), type := _, pos := _, after := _, guard := none }) (v := .bool true) rfl (by kernel_rfl) (by kernel_rfl) (by kernel_rfl) (fun _ _ _ h => h) (Or.inl ⟨by rfl, ?_⟩) hS0 ?_
      · intro w hSw
        go_simp
      simp only [Act.put, List.setIfInBounds_toArray, List.set_cons_zero, List.set_cons_succ]
      refine wpAnyH_take (i := 14) (oi := { dst := some 17, op := .move (.tmp 16), type := _, pos := _, after := _, guard := none }) (v := .bool true) rfl (by kernel_rfl) (by kernel_rfl) (by kernel_rfl) (fun _ _ _ h => h) (Or.inl ⟨by rfl, ?_⟩) hS0 ?_
      · intro w hSw
        go_simp
      simp only [Act.put, List.setIfInBounds_toArray, List.set_cons_zero, List.set_cons_succ]
      refine wpAnyH_take (i := 15) (oi := { dst := some 18, op := .move (.tmp 0), type := _, pos := _, after := _, guard := some (14, true) }) (v := .pointer (some ⟨g, 0, none⟩)) rfl (by kernel_rfl) (by kernel_rfl) (by kernel_rfl) (fun _ _ _ h => h) (Or.inl ⟨by rfl, ?_⟩) hS0 ?_
      · intro w hSw
        go_simp
      simp only [Act.put, List.setIfInBounds_toArray, List.set_cons_zero, List.set_cons_succ]
      refine wpAnyH_take (i := 16) (oi := { dst := some 19, op := .nilCheck (.tmp 18), type := _, pos := _, after := _, guard := some (14, true) }) (v := .pointer (some ⟨g, 0, none⟩)) rfl (by kernel_rfl) (by kernel_rfl) (by kernel_rfl) (fun _ _ _ h => h) (Or.inl ⟨by rfl, ?_⟩) hS0 ?_
      · intro w hSw
        go_simp
      simp only [Act.put, List.setIfInBounds_toArray, List.set_cons_zero, List.set_cons_succ]
      refine wpAnyH_take (i := 17) (oi := { dst := some 20, op := .fieldAddr 71 (.tmp 19) 0, type := _, pos := _, after := _, guard := some (14, true) }) (v := .pointer (some ⟨g, 0, none⟩)) rfl (by kernel_rfl) (by kernel_rfl) (by kernel_rfl) (fun _ _ _ h => h) (Or.inl ⟨by rfl, ?_⟩) hS0 ?_
      · intro w hSw
        obtain ⟨q0, q1, q2, q3, q4, q5, q6⟩ := q7_cells hSw.1
        go_simp
      simp only [Act.put, List.setIfInBounds_toArray, List.set_cons_zero, List.set_cons_succ]
      refine wpAnyH_take (i := 18) (oi := { dst := some 21, op := .load 60 (.tmp 20), type := _, pos := _, after := _, guard := some (14, true) }) (v := .slice (some ⟨gt, 0, none⟩) n c) rfl (by kernel_rfl) (by kernel_rfl) (by kernel_rfl) (fun _ _ _ h => h) (Or.inl ⟨by rfl, ?_⟩) hS0 ?_
      · intro w hSw
        obtain ⟨q0, q1, q2, q3, q4, q5, q6⟩ := q7_cells hSw.1
        go_simp
      simp only [Act.put, List.setIfInBounds_toArray, List.set_cons_zero, List.set_cons_succ]
      refine wpAnyH_take (i := 19) (oi := { dst := some 22, op := .move (.tmp 0), type := _, pos := _, after := _, guard := some (14, true) }) (v := .pointer (some ⟨g, 0, none⟩)) rfl (by kernel_rfl) (by kernel_rfl) (by kernel_rfl) (fun _ _ _ h => h) (Or.inl ⟨by rfl, ?_⟩) hS0 ?_
      · intro w hSw
        go_simp
      simp only [Act.put, List.setIfInBounds_toArray, List.set_cons_zero, List.set_cons_succ]
      refine wpAnyH_take (i := 20) (oi := { dst := some 23, op := .nilCheck (.tmp 22), type := _, pos := _, after := _, guard := some (14, true) }) (v := .pointer (some ⟨g, 0, none⟩)) rfl (by kernel_rfl) (by kernel_rfl) (by kernel_rfl) (fun _ _ _ h => h) (Or.inl ⟨by rfl, ?_⟩) hS0 ?_
      · intro w hSw
        go_simp
      simp only [Act.put, List.setIfInBounds_toArray, List.set_cons_zero, List.set_cons_succ]
      refine wpAnyH_take (i := 21) (oi := { dst := some 24, op := .fieldAddr 71 (.tmp 23) 1, type := _, pos := _, after := _, guard := some (14, true) }) (v := .pointer (some ⟨g, 1, none⟩)) rfl (by kernel_rfl) (by kernel_rfl) (by kernel_rfl) (fun _ _ _ h => h) (Or.inl ⟨by rfl, ?_⟩) hS0 ?_
      · intro w hSw
        obtain ⟨q0, q1, q2, q3, q4, q5, q6⟩ := q7_cells hSw.1
        go_simp
      simp only [Act.put, List.setIfInBounds_toArray, List.set_cons_zero, List.set_cons_succ]
      refine wpAnyH_take (i := 22) (oi := { dst := some 25, op := .load 3 (.tmp 24), type := _, pos := _, after := _, guard := some (14, true) }) (v := .int .i64 (k : Int)) rfl (by kernel_rfl) (by kernel_rfl) (by kernel_rfl) (fun _ _ _ h => h) (Or.inl ⟨by rfl, ?_⟩) hS0 ?_
      · intro w hSw
        obtain ⟨q0, q1, q2, q3, q4, q5, q6⟩ := q7_cells hSw.1
        go_simp
      simp only [Act.put, List.setIfInBounds_toArray, List.set_cons_zero, List.set_cons_succ]
      refine wpAnyH_take (i := 23) (oi := { dst := some 26, op := .indexAddr 60 (.tmp 21) (.tmp 25), type := _, pos := _, after := _, guard := some (14, true) }) (v := .pointer (some ⟨gt, k * 5, none⟩)) rfl (by kernel_rfl) (by kernel_rfl) (by kernel_rfl) (fun _ _ _ h => h) (Or.inl ⟨by rfl, ?_⟩) hS0 ?_
      · intro w hSw
        go_simp
      simp only [Act.put, List.setIfInBounds_toArray, List.set_cons_zero, List.set_cons_succ]
      refine wpAnyH_take (i := 24) (oi := { dst := some 27, op := .fieldAddr 64 (.tmp 26) 1, type := _, pos := _, after := _, guard := some (14, true) }) (v := .pointer (some ⟨gt, k * 5 + 1, none⟩)) rfl (by kernel_rfl) (by kernel_rfl) (by kernel_rfl) (fun _ _ _ h => h) (Or.inl ⟨by rfl, ?_⟩) hS0 ?_
      · intro w hSw
        go_simp
      simp only [Act.put, List.setIfInBounds_toArray, List.set_cons_zero, List.set_cons_succ]
      refine wpAnyH_take (i := 25) (oi := { dst := some 28, op := .load 9 (.tmp 27), type := _, pos := _, after := _, guard := some (14, true) }) (v := .string ⟨T.toArray⟩) rfl (by kernel_rfl) (by kernel_rfl) (by kernel_rfl) (fun _ _ _ h => h) (Or.inl ⟨by rfl, ?_⟩) hS0 ?_
      · intro w hSw
        obtain ⟨q0, q1, q2, q3, q4, q5, q6⟩ := q7_cells hSw.1
        obtain ⟨t0, t1, t2, t3, t4⟩ := tk5_mid hSw.2
        go_simp
      simp only [Act.put, List.setIfInBounds_toArray, List.set_cons_zero, List.set_cons_succ]
      refine wpAnyH_ready (rs := [26]) (by kernel_rfl) (by simp) ?_
      refine AllReadyH.cons (o := { dst := some 29, op := .call { callee := .value (.func 103), args := #[.tmp 28], argTypes := #[9] }, type := _, pos := _, after := _, guard := some (14, true) }) rfl (fun KK hK => ?_) AllReadyH.nil
      rw [if_pos (by rfl)]
      go_wp2_with (go_at_call 103; refine (hNm _).mono ?_; rintro r w1 ⟨rfl, hb1⟩)
      have hS1 : At 71 w1 g (q7 (some ⟨gt, 0, none⟩) n c k en 0 0 ne bl) ∧ w1.rangeAt gt (k * 5) (tok5 K ⟨T.toArray⟩ p vt b) := ⟨hS0.1.below hb1, fun j v hj => by rw [World.cell?_of_block (w := w.drew) (hb1.block gt hgt)]; exact hS0.2 j v hj⟩
      have hB1 : Below w.heap.size w w1 := (Below.drew (Below.refl _ _)).trans (hb1.mono (Nat.le_refl _))
      refine hK.out _ _ hS1 (fun _ => ?_)
      refine wpAnyH_take (i := 27) (oi := { dst := some 30, op := .pick (.tmp 17) (.tmp 29) (.const (.bool false)), type := _, pos := _, after := _, guard := none }) (v := .bool false) rfl (by kernel_rfl) (by kernel_rfl) (by kernel_rfl) (fun _ _ _ h => h) (Or.inl ⟨by rfl, ?_⟩) hS1 ?_
      · intro w hSw
        go_simp
      simp only [Act.put, List.setIfInBounds_toArray, List.set_cons_zero, List.set_cons_succ]
      refine wpAnyH_done (by kernel_rfl) ?_ _
      have hQ1 := HQ.out.below hB1
      subst hn
      go_wp2_with (first
        | (go_at_call 41; refine (HN.out _ hQ1).mono ?_; rintro r u2 ⟨rfl, m, rfl⟩)
        | (go_at_call 40; refine (HB.out _ ((hQ1).drewN m)).mono ?_; rintro r u3 ⟨rfl, hR3, hb3⟩))
      go_ret
      exact ⟨rfl, hR3, ((But.of_below hB1).drewN m).trans hb3⟩

  · have hd : hdT (aheadT L k en) = ⟨0, [], en, 0⟩ := by rw [ahead_end (by omega)]; rfl
    have hm : nameR (aheadT L k en) = .bad 4 (hdT (aheadT L k en)).place := by unfold nameR; rw [hd]; rfl
    rw [hm]
    generalize (hdT (aheadT L k en)).place = p at HN HB ⊢
    clear hd hm h
    generalize hn : L.length = n at *
    go_enter Tryz.func66, Tryz.ntmps66
    go_wp2_with fail
    have hS0 : At 71 w.drew g (q7 a n c k en 0 0 ne bl) := hA.drew
    refine wp_region_held_drew (S := fun x => At 71 x g (q7 a n c k en 0 0 ne bl)) (by kernel_rfl) hS0 (fun _ => ?_)
    refine wpAnyH_take (i := 0) (oi := { dst := some 3, op := .move (.tmp 0), type := _, pos := _, after := _, guard := none }) (v := .pointer (some ⟨g, 0, none⟩)) rfl (by kernel_rfl) (by kernel_rfl) (by kernel_rfl) (fun _ _ _ h => h) (Or.inl ⟨by rfl, ?_⟩) hS0 ?_
    · intro w hSw
      go_simp
    simp only [Act.put, List.setIfInBounds_toArray, List.set_cons_zero, List.set_cons_succ]
    refine wpAnyH_ready (rs := [1]) (by kernel_rfl) (by simp) ?_
    refine AllReadyH.cons (o := { dst := some 4, op := .call { callee := .value (.func 30), args := #[.tmp 3], argTypes := #[69] }, type := _, pos := _, after := _, guard := none }) rfl (fun KK hK => ?_) AllReadyH.nil
    rw [if_pos (by rfl)]
    go_wp2_with (go_at_call 30; refine (refOk_any g n a c k en 0 0 ne bl _ hS0).mono ?_; rintro r u ⟨rfl, hu⟩; obtain rfl := hu.symm)
    refine hK.out _ _ hS0 (fun _ => ?_)
    refine wpAnyH_take (i := 2) (oi := { dst := some 5, op := .move (.tmp 4), type := _, pos := _, after := _, guard := none }) (v := .bool true) rfl (by kernel_rfl) (by kernel_rfl) (by kernel_rfl) (fun _ _ _ h => h) (Or.inl ⟨by rfl, ?_⟩) hS0 ?_
    · intro w hSw
      go_simp
    simp only [Act.put, List.setIfInBounds_toArray, List.set_cons_zero, List.set_cons_succ]
    refine wpAnyH_take (i := 3) (oi := { dst := some 6, op := .move (.tmp 0), type := _, pos := _, after := _, guard := some (2, true) }) (v := .pointer (some ⟨g, 0, none⟩)) rfl (by kernel_rfl) (by kernel_rfl) (by kernel_rfl) (fun _ _ _ h => h) (Or.inl ⟨by rfl, ?_⟩) hS0 ?_
    · intro w hSw
      go_simp
    simp only [Act.put, List.setIfInBounds_toArray, List.set_cons_zero, List.set_cons_succ]
    refine wpAnyH_take (i := 4) (oi := { dst := some 7, op := .nilCheck (.tmp 6), type := _, pos := _, after := _, guard := some (2, true) }) (v := .pointer (some ⟨g, 0, none⟩)) rfl (by kernel_rfl) (by kernel_rfl) (by kernel_rfl) (fun _ _ _ h => h) (Or.inl ⟨by rfl, ?_⟩) hS0 ?_
    · intro w hSw
      go_simp
    simp only [Act.put, List.setIfInBounds_toArray, List.set_cons_zero, List.set_cons_succ]
    refine wpAnyH_take (i := 5) (oi := { dst := some 8, op := .fieldAddr 71 (.tmp 7) 1, type := _, pos := _, after := _, guard := some (2, true) }) (v := .pointer (some ⟨g, 1, none⟩)) rfl (by kernel_rfl) (by kernel_rfl) (by kernel_rfl) (fun _ _ _ h => h) (Or.inl ⟨by rfl, ?_⟩) hS0 ?_
    · intro w hSw
      obtain ⟨q0, q1, q2, q3, q4, q5, q6⟩ := q7_cells hSw
      go_simp
    simp only [Act.put, List.setIfInBounds_toArray, List.set_cons_zero, List.set_cons_succ]
    refine wpAnyH_take (i := 6) (oi := { dst := some 9, op := .load 3 (.tmp 8), type := _, pos := _, after := _, guard := some (2, true) }) (v := .int .i64 (k : Int)) rfl (by kernel_rfl) (by kernel_rfl) (by kernel_rfl) (fun _ _ _ h => h) (Or.inl ⟨by rfl, ?_⟩) hS0 ?_
    · intro w hSw
      obtain ⟨q0, q1, q2, q3, q4, q5, q6⟩ := q7_cells hSw
      go_simp
    simp only [Act.put, List.setIfInBounds_toArray, List.set_cons_zero, List.set_cons_succ]
    refine wpAnyH_take (i := 7) (oi := { dst := some 10, op := .move (.tmp 0), type := _, pos := _, after := _, guard := some (2, true) }) (v := .pointer (some ⟨g, 0, none⟩)) rfl (by kernel_rfl) (by kernel_rfl) (by kernel_rfl) (fun _ _ _ h => h) (Or.inl ⟨by rfl, ?_⟩) hS0 ?_
    · intro w hSw
      go_simp
    simp only [Act.put, List.setIfInBounds_toArray, List.set_cons_zero, List.set_cons_succ]
    refine wpAnyH_take (i := 8) (oi := { dst := some 11, op := .nilCheck (.tmp 10), type := _, pos := _, after := _, guard := some (2, true) }) (v := .pointer (some ⟨g, 0, none⟩)) rfl (by kernel_rfl) (by kernel_rfl) (by kernel_rfl) (fun _ _ _ h => h) (Or.inl ⟨by rfl, ?_⟩) hS0 ?_
    · intro w hSw
      go_simp
    simp only [Act.put, List.setIfInBounds_toArray, List.set_cons_zero, List.set_cons_succ]
    refine wpAnyH_take (i := 9) (oi := { dst := some 12, op := .fieldAddr 71 (.tmp 11) 0, type := _, pos := _, after := _, guard := some (2, true) }) (v := .pointer (some ⟨g, 0, none⟩)) rfl (by kernel_rfl) (by kernel_rfl) (by kernel_rfl) (fun _ _ _ h => h) (Or.inl ⟨by rfl, ?_⟩) hS0 ?_
    · intro w hSw
      obtain ⟨q0, q1, q2, q3, q4, q5, q6⟩ := q7_cells hSw
      go_simp
    simp only [Act.put, List.setIfInBounds_toArray, List.set_cons_zero, List.set_cons_succ]
    refine wpAnyH_take (i := 10) (oi := { dst := some 13, op := .load 60 (.tmp 12), type := _, pos := _, after := _, guard := some (2, true) }) (v := .slice a n c) rfl (by kernel_rfl) (by kernel_rfl) (by kernel_rfl) (fun _ _ _ h => h) (Or.inl ⟨by rfl, ?_⟩) hS0 ?_
    · intro w hSw
      obtain ⟨q0, q1, q2, q3, q4, q5, q6⟩ := q7_cells hSw
      go_simp
    simp only [Act.put, List.setIfInBounds_toArray, List.set_cons_zero, List.set_cons_succ]
    refine wpAnyH_take (i := 11) (oi := { dst := some 14, op := .call { callee := .builtin .len, args := #[.tmp 13], argTypes := #[60] }, type := _, pos := _, after := _, guard := some (2, true) }) (v := .int .i64 (n : Int)) rfl (by kernel_rfl) (by kernel_rfl) (by kernel_rfl) (fun _ _ _ h => h) (Or.inl ⟨by rfl, ?_⟩) hS0 ?_
    · intro w hSw
      go_simp
    simp only [Act.put, List.setIfInBounds_toArray, List.set_cons_zero, List.set_cons_succ]
    refine wpAnyH_take (i := 12) (oi := { dst := some 15, op := .binOp .lss 3 (.tmp 9) (.tmp 14) 3, type := _, pos := _, after := _, guard := some (2, true) }) (v := .bool false) rfl (by kernel_rfl) (by kernel_rfl) (by kernel_rfl) (fun _ _ _ h => h) (Or.inl ⟨by rfl, ?_⟩) hS0 ?_
    · intro w hSw
      go_simp
    simp only [Act.put, List.setIfInBounds_toArray, List.set_cons_zero, List.set_cons_succ]
    refine wpAnyH_take (i := 13) (oi := { dst := some 16, op := .pick (.tmp 5) (.tmp 15) (.const (.bool false)), type := _, pos := _, after := _, guard := none }) (v := .bool false) rfl (by kernel_rfl) (by kernel_rfl) (by kernel_rfl) (fun _ _ _ h => h) (Or.inl ⟨by rfl, ?_⟩) hS0 ?_
    · intro w hSw
      go_simp
    simp only [Act.put, List.setIfInBounds_toArray, List.set_cons_zero, List.set_cons_succ]
    refine wpAnyH_take (i := 14) (oi := { dst := some 17, op := .move (.tmp 16), type := _, pos := _, after := _, guard := none }) (v := .bool false) rfl (by kernel_rfl) (by kernel_rfl) (by kernel_rfl) (fun _ _ _ h => h) (Or.inl ⟨by rfl, ?_⟩) hS0 ?_
    · intro w hSw
      go_simp
    simp only [Act.put, List.setIfInBounds_toArray, List.set_cons_zero, List.set_cons_succ]
    refine wpAnyH_take (i := 15) (oi := { dst := some 18, op := .move (.tmp 0), type := _, pos := _, after := _, guard := some (14, true) }) (v := undef) rfl (by kernel_rfl) (by kernel_rfl) (by kernel_rfl) (fun _ _ _ h => h) (Or.inr ⟨by rfl, rfl⟩) hS0 ?_
    simp only [Act.put, List.setIfInBounds_toArray, List.set_cons_zero, List.set_cons_succ]
    refine wpAnyH_take (i := 16) (oi := { dst := some 19, op := .nilCheck (.tmp 18), type := _, pos := _, after := _, guard := some (14, true) }) (v := undef) rfl (by kernel_rfl) (by kernel_rfl) (by kernel_rfl) (fun _ _ _ h => h) (Or.inr ⟨by rfl, rfl⟩) hS0 ?_
    simp only [Act.put, List.setIfInBounds_toArray, List.set_cons_zero, List.set_cons_succ]
    refine wpAnyH_take (i := 17) (oi := { dst := some 20, op := .fieldAddr 71 (.tmp 19) 0, type := _, pos := _, after := _, guard := some (14, true) }) (v := undef) rfl (by kernel_rfl) (by kernel_rfl) (by kernel_rfl) (fun _ _ _ h => h) (Or.inr ⟨by rfl, rfl⟩) hS0 ?_
    simp only [Act.put, List.setIfInBounds_toArray, List.set_cons_zero, List.set_cons_succ]
    refine wpAnyH_take (i := 18) (oi := { dst := some 21, op := .load 60 (.tmp 20), type := _, pos := _, after := _, guard := some (14, true) }) (v := undef) rfl (by kernel_rfl) (by kernel_rfl) (by kernel_rfl) (fun _ _ _ h => h) (Or.inr ⟨by rfl, rfl⟩) hS0 ?_
    simp only [Act.put, List.setIfInBounds_toArray, List.set_cons_zero, List.set_cons_succ]
    refine wpAnyH_take (i := 19) (oi := { dst := some 22, op := .move (.tmp 0), type := _, pos := _, after := _, guard := some (14, true) }) (v := undef) rfl (by kernel_rfl) (by kernel_rfl) (by kernel_rfl) (fun _ _ _ h => h) (Or.inr ⟨by rfl, rfl⟩) hS0 ?_
    simp only [Act.put, List.setIfInBounds_toArray, List.set_cons_zero, List.set_cons_succ]
    refine wpAnyH_take (i := 20) (oi := { dst := some 23, op := .nilCheck (.tmp 22), type := _, pos := _, after := _, guard := some (14, true) }) (v := undef) rfl (by kernel_rfl) (by kernel_rfl) (by kernel_rfl) (fun _ _ _ h => h) (Or.inr ⟨by rfl, rfl⟩) hS0 ?_
    simp only [Act.put, List.setIfInBounds_toArray, List.set_cons_zero, List.set_cons_succ]
    refine wpAnyH_take (i := 21) (oi := { dst := some 24, op := .fieldAddr 71 (.tmp 23) 1, type := _, pos := _, after := _, guard := some (14, true) }) (v := undef) rfl (by kernel_rfl) (by kernel_rfl) (by kernel_rfl) (fun _ _ _ h => h) (Or.inr ⟨by rfl, rfl⟩) hS0 ?_
    simp only [Act.put, List.setIfInBounds_toArray, List.set_cons_zero, List.set_cons_succ]
    refine wpAnyH_take (i := 22) (oi := { dst := some 25, op := .load 3 (.tmp 24), type := _, pos := _, after := _, guard := some (14, true) }) (v := undef) rfl (by kernel_rfl) (by kernel_rfl) (by kernel_rfl) (fun _ _ _ h => h) (Or.inr ⟨by rfl, rfl⟩) hS0 ?_
    simp only [Act.put, List.setIfInBounds_toArray, List.set_cons_zero, List.set_cons_succ]
    refine wpAnyH_take (i := 23) (oi := { dst := some 26, op := .indexAddr 60 (.tmp 21) (.tmp 25), type := _, pos := _, after := _, guard := some (14, true) }) (v := undef) rfl (by kernel_rfl) (by kernel_rfl) (by kernel_rfl) (fun _ _ _ h => h) (Or.inr ⟨by rfl, rfl⟩) hS0 ?_
    simp only [Act.put, List.setIfInBounds_toArray, List.set_cons_zero, List.set_cons_succ]
    refine wpAnyH_take (i := 24) (oi := { dst := some 27, op := .fieldAddr 64 (.tmp 26) 1, type := _, pos := _, after := _, guard := some (14, true) }) (v := undef) rfl (by kernel_rfl) (by kernel_rfl) (by kernel_rfl) (fun _ _ _ h => h) (Or.inr ⟨by rfl, rfl⟩) hS0 ?_
    simp only [Act.put, List.setIfInBounds_toArray, List.set_cons_zero, List.set_cons_succ]
    refine wpAnyH_take (i := 25) (oi := { dst := some 28, op := .load 9 (.tmp 27), type := _, pos := _, after := _, guard := some (14, true) }) (v := undef) rfl (by kernel_rfl) (by kernel_rfl) (by kernel_rfl) (fun _ _ _ h => h) (Or.inr ⟨by rfl, rfl⟩) hS0 ?_
    simp only [Act.put, List.setIfInBounds_toArray, List.set_cons_zero, List.set_cons_succ]
    refine wpAnyH_take (i := 26) (oi := { dst := some 29, op := .call { callee := .value (.func 103), args := #[.tmp 28], argTypes := #[9] }, type := _, pos := _, after := _, guard := some (14, true) }) (v := undef) rfl (by kernel_rfl) (by kernel_rfl) (by kernel_rfl) (fun _ _ _ h => h) (Or.inr ⟨by rfl, rfl⟩) hS0 ?_
    simp only [Act.put, List.setIfInBounds_toArray, List.set_cons_zero, List.set_cons_succ]
    refine wpAnyH_take (i := 27) (oi := { dst := some 30, op := .pick (.tmp 17) (.tmp 29) (.const (.bool false)), type := _, pos := _, after := _, guard := none }) (v := .bool false) rfl (by kernel_rfl) (by kernel_rfl) (by kernel_rfl) (fun _ _ _ h => h) (Or.inl ⟨by rfl, ?_⟩) hS0 ?_
    · intro w hSw
      go_simp
    simp only [Act.put, List.setIfInBounds_toArray, List.set_cons_zero, List.set_cons_succ]
    refine wpAnyH_done (by kernel_rfl) ?_ _
    have hQ1 : Qd B w.drew g L a c k en 0 0 ne bl := HQ.out.keep fun _ _ _ => rfl
    have hB1 : Below w.heap.size w w.drew := Below.drew (Below.refl _ _)
    subst hn
    clear hS0
    generalize w.drew = w1 at hQ1 hB1 ⊢
    go_wp2_with (first
      | (go_at_call 41; refine (HN.out _ hQ1).mono ?_; rintro r u2 ⟨rfl, m, rfl⟩)
      | (go_at_call 40; refine (HB.out _ ((hQ1).drewN m)).mono ?_; rintro r u3 ⟨rfl, hR3, hb3⟩))
    go_ret
    exact ⟨rfl, hR3, ((But.of_below hB1).drewN m).trans hb3⟩

end Go.Proofs.YtjgggmjjikopeaaGreatDoor
