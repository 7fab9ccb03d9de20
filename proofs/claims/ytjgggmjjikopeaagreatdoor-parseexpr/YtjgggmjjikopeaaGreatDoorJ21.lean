/- The document's signs of two operands. -/
import Derived.Test.YtjgggmjjikopeaaGreatDoorJ19
namespace Go.Proofs.YtjgggmjjikopeaaGreatDoor
open Go.RowKit
set_option linter.unusedVariables false

/-- The sign of a rule that is next, or 0. -/
def signV (ok : Bool) (n : Nat) (x : List UInt8) : Nat := if (ok && decide ((bindOf x).2 = n + 1)) = true then (bindOf x).1 else 0
theorem ir9 : (Tryz.prog.info? 9).map (fun i => (i.zero, i.size, i.bytes)) = some (some (.string ⟨#[]⟩), 1, 16) := by kernel_rfl
theorem ir23 : (Tryz.prog.info? 23).map (fun i => (i.zero, i.size, i.bytes)) = some (some (.slice none 0 0), 1, 24) := by kernel_rfl
theorem ir36 : (Tryz.prog.info? 36).map (fun i => (i.zero, i.size, i.bytes)) = some (some (.int .u8 0), 1, 1) := by kernel_rfl
theorem ir186 : (Tryz.prog.info? 186).map (fun i => (i.zero, i.size, i.bytes)) = some (some (.slice none 0 0), 1, 24) := by kernel_rfl
/-- Single cells are laid as a row. -/
theorem wpList_rowOf {ops : Array Oper} {rest : List Oper} {o : Oper} {a : Act} {w : World} {Q : Exit → Act → World → Prop} (hgd : o.guard = none) (t e n : Nat) (parts : Array (Nat × Operand)) (ho : o.op = .buildSlice t n parts) {z : Value} {by' : Nat} (hu : Tryz.prog.underlying t = some (.slice e)) (hi : (Tryz.prog.info? e).map (fun i => (i.zero, i.size, i.bytes)) = some (some z, 1, by')) (cs : List Value) (h0 : 0 < n) (hn : n ≤ 1000)
    (hf : Instr.fill (fun i => some (i * 1, 1)) ((Array.range (n * 1)).map (z.cells[· % z.cells.size]!)) (parts.map fun (i, x) => (i, a.eval x)).toList = some cs.toArray)
    (h : ∀ w', At e w' w.heap.size cs → Below w.heap.size w w' → w'.heap.size = w.heap.size + 1 → wpList Tryz.prog ops Q rest (a.put o.dst (.slice (some ⟨w.heap.size, 0, none⟩) n n)) w') :
    wpList Tryz.prog ops Q (o :: rest) a w := by
  obtain ⟨ie, hi, hz0, hz1, hz2⟩ := info_parts hi
  refine wpList_buildSlice hgd t e n parts ho cs.toArray ie z hu hi hz0 (by rw [hz1]; omega) (by rw [hz1]; omega) ?_ ?_
  · rw [hz1]; exact hf
  · exact h _ (_root_.Go.heap_alloc_new w _) ((Below.refl _ w).alloc (Nat.le_refl _) _) (by show (w.heap.push _).size = _; simp)

theorem bind_rule0 (x : List UInt8) (h : (bindOf x).2 = 1) : x = [124, 124] := by
  by_cases hx : x = [124, 124]
  · exact hx
  · exfalso
    have hx' : x ≠ [124, 124] := by
      exact hx
    revert h
    unfold bindOf
    have go : ∀ (c : Prop) [Decidable c] (a b : Nat × Nat), (c → a.2 ≠ 1) → b.2 ≠ 1 → (if c then a else b).2 ≠ 1 := fun c _ a b h1 h2 => by
      by_cases h : c
      · rw [if_pos h]; exact h1 h
      · rw [if_neg h]; exact h2
    refine go _ _ _ (fun c => ?_) (go _ _ _ (fun c => ?_) (go _ _ _ (fun c => ?_) (go _ _ _ (fun c => ?_) (go _ _ _ (fun c => ?_) (go _ _ _ (fun c => ?_) (go _ _ _ (fun c => ?_) (go _ _ _ (fun c => ?_) (go _ _ _ (fun c => ?_) (go _ _ _ (fun c => ?_) (go _ _ _ (fun c => ?_) (go _ _ _ (fun c => ?_) (go _ _ _ (fun c => ?_) ?_))))))))))))
    all_goals first | decide | exact absurd c (by simp [hx'])

set_option maxRecDepth 100000 in
set_option maxHeartbeats 12800000 in
theorem sign0_any {B : Nat} (g : Nat) (L : List Tk) (a : Option Addr) (c k en er pl ne bl : Nat) (w : World) (h : Qd B w g L a c k en er pl ne bl) :
    Calls Tryz.prog 144 #[.pointer (some ⟨g, 0, none⟩), .int .i64 0] w fun q w' => q = .returned (.int .u8 (signV (decide (er = 0) && decide (pl = 0)) 0 (hdT (aheadT L k en)).text : Int)) ∧ Below w.heap.size w w' := by
  have HQ : Hid (∀ u, Below w.heap.size w u → Qd B u g L a c k en er pl ne bl) := fun u hu => h.below hu
  have HI0 : Hid (∀ u, Below w.heap.size w u → Calls Tryz.prog 63 #[.pointer (some ⟨g, 0, none⟩), .string ⟨#[124, 124]⟩] u fun q w' => q = .returned (.bool ((decide (er = 0) && decide (pl = 0)) && decide ((hdT (aheadT L k en)).text = [124, 124]))) ∧ ∃ m, w' = u.drewN m) := fun u hu => is_any g L a c k en er pl ne bl ⟨#[124, 124]⟩ (by decide) u (h.below hu)
  generalize (decide (er = 0) && decide (pl = 0)) = ok at *
  generalize (hdT (aheadT L k en)).text = T at *
  clear h
  go_enter Tryz.func144, Tryz.ntmps144
  go_wp2_with (first | ((with_reducible show wpList _ _ _ _ _ _); refine wpList_rowOf (o := { dst := some 8, .. }) rfl 23 9 1 _ rfl Tryz.underlying23 ir9 [.string ⟨#[124, 124]⟩] (by decide) (by decide) (by kernel_rfl) ?_; intro s1 hS1 hs1 hs; clear hs; refine Hid.out ?_))
  refine hidU ?_
  go_wp2_with (first | ((with_reducible show wpList _ _ _ _ _ _); refine wpList_rowOf (o := { dst := some 9, .. }) rfl 23 9 1 _ rfl Tryz.underlying23 ir9 [.string ⟨#[38, 38]⟩] (by decide) (by decide) (by kernel_rfl) ?_; intro s2 hS2 hs2 hs; clear hs; refine Hid.out ?_))
  refine hidU ?_
  go_wp2_with (first | ((with_reducible show wpList _ _ _ _ _ _); refine wpList_rowOf (o := { dst := some 10, .. }) rfl 23 9 6 _ rfl Tryz.underlying23 ir9 [.string ⟨#[61, 61]⟩, .string ⟨#[33, 61]⟩, .string ⟨#[60]⟩, .string ⟨#[60, 61]⟩, .string ⟨#[62]⟩, .string ⟨#[62, 61]⟩] (by decide) (by decide) (by kernel_rfl) ?_; intro s3 hS3 hs3 hs; clear hs; refine Hid.out ?_))
  refine hidU ?_
  go_wp2_with (first | ((with_reducible show wpList _ _ _ _ _ _); refine wpList_rowOf (o := { dst := some 11, .. }) rfl 23 9 2 _ rfl Tryz.underlying23 ir9 [.string ⟨#[43]⟩, .string ⟨#[45]⟩] (by decide) (by decide) (by kernel_rfl) ?_; intro s4 hS4 hs4 hs; clear hs; refine Hid.out ?_))
  refine hidU ?_
  go_wp2_with (first | ((with_reducible show wpList _ _ _ _ _ _); refine wpList_rowOf (o := { dst := some 12, .. }) rfl 23 9 3 _ rfl Tryz.underlying23 ir9 [.string ⟨#[42]⟩, .string ⟨#[47]⟩, .string ⟨#[37]⟩] (by decide) (by decide) (by kernel_rfl) ?_; intro s5 hS5 hs5 hs; clear hs; refine Hid.out ?_))
  refine hidU ?_
  go_wp2_with (first | ((with_reducible show wpList _ _ _ _ _ _); refine wpList_rowOf (o := { dst := some 13, .. }) rfl 185 23 5 _ rfl Tryz.underlying185 ir23 [.slice (some ⟨w.heap.size, 0, none⟩) 1 1, .slice (some ⟨s1.heap.size, 0, none⟩) 1 1, .slice (some ⟨s2.heap.size, 0, none⟩) 6 6, .slice (some ⟨s3.heap.size, 0, none⟩) 2 2, .slice (some ⟨s4.heap.size, 0, none⟩) 3 3] (by decide) (by decide) (by kernel_rfl) ?_; intro s6 hS6 hs6 hs; clear hs; refine Hid.out ?_))
  refine hidU ?_
  go_wp2_with (first | ((with_reducible show wpList _ _ _ _ _ _); refine wpList_rowOf (o := { dst := some 14, .. }) rfl 186 36 1 _ rfl Tryz.underlying186 ir36 [.int .u8 3] (by decide) (by decide) (by kernel_rfl) ?_; intro o1 hO1 ho1 hs; clear hs; refine Hid.out ?_))
  refine hidU ?_
  go_wp2_with (first | ((with_reducible show wpList _ _ _ _ _ _); refine wpList_rowOf (o := { dst := some 15, .. }) rfl 186 36 1 _ rfl Tryz.underlying186 ir36 [.int .u8 4] (by decide) (by decide) (by kernel_rfl) ?_; intro o2 hO2 ho2 hs; clear hs; refine Hid.out ?_))
  refine hidU ?_
  go_wp2_with (first | ((with_reducible show wpList _ _ _ _ _ _); refine wpList_rowOf (o := { dst := some 16, .. }) rfl 186 36 6 _ rfl Tryz.underlying186 ir36 [.int .u8 5, .int .u8 6, .int .u8 7, .int .u8 8, .int .u8 9, .int .u8 10] (by decide) (by decide) (by kernel_rfl) ?_; intro o3 hO3 ho3 hs; clear hs; refine Hid.out ?_))
  refine hidU ?_
  go_wp2_with (first | ((with_reducible show wpList _ _ _ _ _ _); refine wpList_rowOf (o := { dst := some 17, .. }) rfl 186 36 2 _ rfl Tryz.underlying186 ir36 [.int .u8 11, .int .u8 12] (by decide) (by decide) (by kernel_rfl) ?_; intro o4 hO4 ho4 hs; clear hs; refine Hid.out ?_))
  refine hidU ?_
  go_wp2_with (first | ((with_reducible show wpList _ _ _ _ _ _); refine wpList_rowOf (o := { dst := some 18, .. }) rfl 186 36 3 _ rfl Tryz.underlying186 ir36 [.int .u8 13, .int .u8 14, .int .u8 15] (by decide) (by decide) (by kernel_rfl) ?_; intro o5 hO5 ho5 hs; clear hs; refine Hid.out ?_))
  refine hidU ?_
  go_wp2_with (first | ((with_reducible show wpList _ _ _ _ _ _); refine wpList_rowOf (o := { dst := some 19, .. }) rfl 187 186 5 _ rfl Tryz.underlying187 ir186 [.slice (some ⟨s6.heap.size, 0, none⟩) 1 1, .slice (some ⟨o1.heap.size, 0, none⟩) 1 1, .slice (some ⟨o2.heap.size, 0, none⟩) 6 6, .slice (some ⟨o3.heap.size, 0, none⟩) 2 2, .slice (some ⟨o4.heap.size, 0, none⟩) 3 3] (by decide) (by decide) (by kernel_rfl) ?_; intro o6 hO6 ho6 hs; clear hs; refine Hid.out ?_))
  refine hidU ?_
  have c1 := ((((((hS6).below ho1).below ho2).below ho3).below ho4).below ho5).below ho6
  have c2 := (((((((((((hS1).below hs2).below hs3).below hs4).below hs5).below hs6).below ho1).below ho2).below ho3).below ho4).below ho5).below ho6
  have c3 := hO6
  have c4 := (((((hO1).below ho2).below ho3).below ho4).below ho5).below ho6
  have hB : Below w.heap.size w o6 := ((((((((((hs1.trans (hs2.mono hs1.size)).trans (hs3.mono (Nat.le_trans hs1.size hs2.size))).trans (hs4.mono (by have := hs1.size; have := hs2.size; have := hs3.size; omega))).trans (hs5.mono (by have := hs1.size; have := hs2.size; have := hs3.size; have := hs4.size; omega))).trans (hs6.mono (by have := hs1.size; have := hs2.size; have := hs3.size; have := hs4.size; have := hs5.size; omega))).trans (ho1.mono (by have := hs1.size; have := hs2.size; have := hs3.size; have := hs4.size; have := hs5.size; have := hs6.size; omega))).trans (ho2.mono (by have := hs1.size; have := hs2.size; have := hs3.size; have := hs4.size; have := hs5.size; have := hs6.size; have := ho1.size; omega))).trans (ho3.mono (by have := hs1.size; have := hs2.size; have := hs3.size; have := hs4.size; have := hs5.size; have := hs6.size; have := ho1.size; have := ho2.size; omega))).trans (ho4.mono (by have := hs1.size; have := hs2.size; have := hs3.size; have := hs4.size; have := hs5.size; have := hs6.size; have := ho1.size; have := ho2.size; have := ho3.size; omega))).trans (ho5.mono (by have := hs1.size; have := hs2.size; have := hs3.size; have := hs4.size; have := hs5.size; have := hs6.size; have := ho1.size; have := ho2.size; have := ho3.size; have := ho4.size; omega))).trans (ho6.mono (by have := hs1.size; have := hs2.size; have := hs3.size; have := hs4.size; have := hs5.size; have := hs6.size; have := ho1.size; have := ho2.size; have := ho3.size; have := ho4.size; have := ho5.size; omega))
  have d1 : o6.cell? ⟨s5.heap.size, 0, none⟩ = some (.slice (some ⟨w.heap.size, 0, none⟩) 1 1) := by rw [c1.cell]; rfl
  have d3 : o6.cell? ⟨o5.heap.size, 0, none⟩ = some (.slice (some ⟨s6.heap.size, 0, none⟩) 1 1) := by rw [c3.cell]; rfl
  have e0 : o6.cell? ⟨w.heap.size, 0, none⟩ = some (.string ⟨#[124, 124]⟩) := by rw [c2.cell]; rfl
  have f0 : o6.cell? ⟨s6.heap.size, 0, none⟩ = some (.int .u8 3) := by rw [c4.cell]; rfl
  clear c1 c2 c3 c4 hS1 hS2 hS3 hS4 hS5 hS6 hO1 hO2 hO3 hO4 hO5 hO6 hs1 hs2 hs3 hs4 hs5 hs6 ho1 ho2 ho3 ho4 ho5 ho6 HQ
  go_wp2_with fail
  go_loopw [7] (fun j wr => ∃ i : Nat, j = .int .i64 (i : Int) ∧ i ≤ 1 ∧ Hid ((0 < i → (ok && decide (T = [124, 124])) = false)) ∧ ∃ q, wr = o6.drewN q) (fun j _ => 1 - (intOf j).toNat)
  case atStart => exact ⟨0, rfl, by omega, fun h => absurd h (by omega), 0, rfl⟩
  case round =>
    obtain ⟨i, rfl, hi, hP, q, rfl⟩ := hrel
    have hBq : Below w.heap.size w (o6.drewN q) := hB.trans ((below_drewN o6 q).mono hB.size)
    rcases (show i = 0 ∨ i = 1 by omega) with rfl | rfl
    · have hC := HI0.out _ hBq
      by_cases hb : (ok && decide (T = [124, 124])) = true
      · rw [hb] at hC
        have hv : signV ok 0 T = 3 := by
          simp only [Bool.and_eq_true, decide_eq_true_iff] at hb
          rw [hb.1, hb.2]
          decide
        have HV : Hid (signV ok 0 T = 3) := hv
        clear hv hb hP
        go_wp2_with (first
          | (go_at_call 63; refine hC.mono ?_; rintro r u ⟨rfl, m, rfl⟩))
        go_ret
        exact ⟨by rw [HV.out]; rfl, hB.trans ((below_drewN o6 _).mono hB.size)⟩
      · have hb := Bool.eq_false_iff.2 hb
        rw [hb] at hC
        have hP2 : Hid ((0 < 1 → (ok && decide (T = [124, 124])) = false)) := fun h => hb
        clear hb hP
        go_wp2_with (first
          | (go_at_call 63; refine hC.mono ?_; rintro r u ⟨rfl, m, rfl⟩))
        go_roundw
        case rel => exact ⟨1, by go_num, by omega, hP2, _, rfl⟩
        case measure => simp [intOf]
    · have hv : signV ok 0 T = 0 := by
        unfold signV
        rw [if_neg]
        intro hh
        simp only [Bool.and_eq_true, decide_eq_true_iff] at hh
        rcases bind_rule0 T hh.2 with e
        have := hP.out (by omega); rw [hh.1, e] at this; exact absurd this (by decide)
      have HV : Hid (signV ok 0 T = 0) := hv
      clear hv hP
      go_wp2
      go_ret
      exact ⟨by rw [HV.out]; rfl, hBq⟩

theorem bind_rule1 (x : List UInt8) (h : (bindOf x).2 = 2) : x = [38, 38] := by
  by_cases hx : x = [38, 38]
  · exact hx
  · exfalso
    have hx' : x ≠ [38, 38] := by
      exact hx
    revert h
    unfold bindOf
    have go : ∀ (c : Prop) [Decidable c] (a b : Nat × Nat), (c → a.2 ≠ 2) → b.2 ≠ 2 → (if c then a else b).2 ≠ 2 := fun c _ a b h1 h2 => by
      by_cases h : c
      · rw [if_pos h]; exact h1 h
      · rw [if_neg h]; exact h2
    refine go _ _ _ (fun c => ?_) (go _ _ _ (fun c => ?_) (go _ _ _ (fun c => ?_) (go _ _ _ (fun c => ?_) (go _ _ _ (fun c => ?_) (go _ _ _ (fun c => ?_) (go _ _ _ (fun c => ?_) (go _ _ _ (fun c => ?_) (go _ _ _ (fun c => ?_) (go _ _ _ (fun c => ?_) (go _ _ _ (fun c => ?_) (go _ _ _ (fun c => ?_) (go _ _ _ (fun c => ?_) ?_))))))))))))
    all_goals first | decide | exact absurd c (by simp [hx'])

set_option maxRecDepth 100000 in
set_option maxHeartbeats 12800000 in
theorem sign1_any {B : Nat} (g : Nat) (L : List Tk) (a : Option Addr) (c k en er pl ne bl : Nat) (w : World) (h : Qd B w g L a c k en er pl ne bl) :
    Calls Tryz.prog 144 #[.pointer (some ⟨g, 0, none⟩), .int .i64 1] w fun q w' => q = .returned (.int .u8 (signV (decide (er = 0) && decide (pl = 0)) 1 (hdT (aheadT L k en)).text : Int)) ∧ Below w.heap.size w w' := by
  have HQ : Hid (∀ u, Below w.heap.size w u → Qd B u g L a c k en er pl ne bl) := fun u hu => h.below hu
  have HI0 : Hid (∀ u, Below w.heap.size w u → Calls Tryz.prog 63 #[.pointer (some ⟨g, 0, none⟩), .string ⟨#[38, 38]⟩] u fun q w' => q = .returned (.bool ((decide (er = 0) && decide (pl = 0)) && decide ((hdT (aheadT L k en)).text = [38, 38]))) ∧ ∃ m, w' = u.drewN m) := fun u hu => is_any g L a c k en er pl ne bl ⟨#[38, 38]⟩ (by decide) u (h.below hu)
  generalize (decide (er = 0) && decide (pl = 0)) = ok at *
  generalize (hdT (aheadT L k en)).text = T at *
  clear h
  go_enter Tryz.func144, Tryz.ntmps144
  go_wp2_with (first | ((with_reducible show wpList _ _ _ _ _ _); refine wpList_rowOf (o := { dst := some 8, .. }) rfl 23 9 1 _ rfl Tryz.underlying23 ir9 [.string ⟨#[124, 124]⟩] (by decide) (by decide) (by kernel_rfl) ?_; intro s1 hS1 hs1 hs; clear hs; refine Hid.out ?_))
  refine hidU ?_
  go_wp2_with (first | ((with_reducible show wpList _ _ _ _ _ _); refine wpList_rowOf (o := { dst := some 9, .. }) rfl 23 9 1 _ rfl Tryz.underlying23 ir9 [.string ⟨#[38, 38]⟩] (by decide) (by decide) (by kernel_rfl) ?_; intro s2 hS2 hs2 hs; clear hs; refine Hid.out ?_))
  refine hidU ?_
  go_wp2_with (first | ((with_reducible show wpList _ _ _ _ _ _); refine wpList_rowOf (o := { dst := some 10, .. }) rfl 23 9 6 _ rfl Tryz.underlying23 ir9 [.string ⟨#[61, 61]⟩, .string ⟨#[33, 61]⟩, .string ⟨#[60]⟩, .string ⟨#[60, 61]⟩, .string ⟨#[62]⟩, .string ⟨#[62, 61]⟩] (by decide) (by decide) (by kernel_rfl) ?_; intro s3 hS3 hs3 hs; clear hs; refine Hid.out ?_))
  refine hidU ?_
  go_wp2_with (first | ((with_reducible show wpList _ _ _ _ _ _); refine wpList_rowOf (o := { dst := some 11, .. }) rfl 23 9 2 _ rfl Tryz.underlying23 ir9 [.string ⟨#[43]⟩, .string ⟨#[45]⟩] (by decide) (by decide) (by kernel_rfl) ?_; intro s4 hS4 hs4 hs; clear hs; refine Hid.out ?_))
  refine hidU ?_
  go_wp2_with (first | ((with_reducible show wpList _ _ _ _ _ _); refine wpList_rowOf (o := { dst := some 12, .. }) rfl 23 9 3 _ rfl Tryz.underlying23 ir9 [.string ⟨#[42]⟩, .string ⟨#[47]⟩, .string ⟨#[37]⟩] (by decide) (by decide) (by kernel_rfl) ?_; intro s5 hS5 hs5 hs; clear hs; refine Hid.out ?_))
  refine hidU ?_
  go_wp2_with (first | ((with_reducible show wpList _ _ _ _ _ _); refine wpList_rowOf (o := { dst := some 13, .. }) rfl 185 23 5 _ rfl Tryz.underlying185 ir23 [.slice (some ⟨w.heap.size, 0, none⟩) 1 1, .slice (some ⟨s1.heap.size, 0, none⟩) 1 1, .slice (some ⟨s2.heap.size, 0, none⟩) 6 6, .slice (some ⟨s3.heap.size, 0, none⟩) 2 2, .slice (some ⟨s4.heap.size, 0, none⟩) 3 3] (by decide) (by decide) (by kernel_rfl) ?_; intro s6 hS6 hs6 hs; clear hs; refine Hid.out ?_))
  refine hidU ?_
  go_wp2_with (first | ((with_reducible show wpList _ _ _ _ _ _); refine wpList_rowOf (o := { dst := some 14, .. }) rfl 186 36 1 _ rfl Tryz.underlying186 ir36 [.int .u8 3] (by decide) (by decide) (by kernel_rfl) ?_; intro o1 hO1 ho1 hs; clear hs; refine Hid.out ?_))
  refine hidU ?_
  go_wp2_with (first | ((with_reducible show wpList _ _ _ _ _ _); refine wpList_rowOf (o := { dst := some 15, .. }) rfl 186 36 1 _ rfl Tryz.underlying186 ir36 [.int .u8 4] (by decide) (by decide) (by kernel_rfl) ?_; intro o2 hO2 ho2 hs; clear hs; refine Hid.out ?_))
  refine hidU ?_
  go_wp2_with (first | ((with_reducible show wpList _ _ _ _ _ _); refine wpList_rowOf (o := { dst := some 16, .. }) rfl 186 36 6 _ rfl Tryz.underlying186 ir36 [.int .u8 5, .int .u8 6, .int .u8 7, .int .u8 8, .int .u8 9, .int .u8 10] (by decide) (by decide) (by kernel_rfl) ?_; intro o3 hO3 ho3 hs; clear hs; refine Hid.out ?_))
  refine hidU ?_
  go_wp2_with (first | ((with_reducible show wpList _ _ _ _ _ _); refine wpList_rowOf (o := { dst := some 17, .. }) rfl 186 36 2 _ rfl Tryz.underlying186 ir36 [.int .u8 11, .int .u8 12] (by decide) (by decide) (by kernel_rfl) ?_; intro o4 hO4 ho4 hs; clear hs; refine Hid.out ?_))
  refine hidU ?_
  go_wp2_with (first | ((with_reducible show wpList _ _ _ _ _ _); refine wpList_rowOf (o := { dst := some 18, .. }) rfl 186 36 3 _ rfl Tryz.underlying186 ir36 [.int .u8 13, .int .u8 14, .int .u8 15] (by decide) (by decide) (by kernel_rfl) ?_; intro o5 hO5 ho5 hs; clear hs; refine Hid.out ?_))
  refine hidU ?_
  go_wp2_with (first | ((with_reducible show wpList _ _ _ _ _ _); refine wpList_rowOf (o := { dst := some 19, .. }) rfl 187 186 5 _ rfl Tryz.underlying187 ir186 [.slice (some ⟨s6.heap.size, 0, none⟩) 1 1, .slice (some ⟨o1.heap.size, 0, none⟩) 1 1, .slice (some ⟨o2.heap.size, 0, none⟩) 6 6, .slice (some ⟨o3.heap.size, 0, none⟩) 2 2, .slice (some ⟨o4.heap.size, 0, none⟩) 3 3] (by decide) (by decide) (by kernel_rfl) ?_; intro o6 hO6 ho6 hs; clear hs; refine Hid.out ?_))
  refine hidU ?_
  have c1 := ((((((hS6).below ho1).below ho2).below ho3).below ho4).below ho5).below ho6
  have c2 := ((((((((((hS2).below hs3).below hs4).below hs5).below hs6).below ho1).below ho2).below ho3).below ho4).below ho5).below ho6
  have c3 := hO6
  have c4 := ((((hO2).below ho3).below ho4).below ho5).below ho6
  have hB : Below w.heap.size w o6 := ((((((((((hs1.trans (hs2.mono hs1.size)).trans (hs3.mono (Nat.le_trans hs1.size hs2.size))).trans (hs4.mono (by have := hs1.size; have := hs2.size; have := hs3.size; omega))).trans (hs5.mono (by have := hs1.size; have := hs2.size; have := hs3.size; have := hs4.size; omega))).trans (hs6.mono (by have := hs1.size; have := hs2.size; have := hs3.size; have := hs4.size; have := hs5.size; omega))).trans (ho1.mono (by have := hs1.size; have := hs2.size; have := hs3.size; have := hs4.size; have := hs5.size; have := hs6.size; omega))).trans (ho2.mono (by have := hs1.size; have := hs2.size; have := hs3.size; have := hs4.size; have := hs5.size; have := hs6.size; have := ho1.size; omega))).trans (ho3.mono (by have := hs1.size; have := hs2.size; have := hs3.size; have := hs4.size; have := hs5.size; have := hs6.size; have := ho1.size; have := ho2.size; omega))).trans (ho4.mono (by have := hs1.size; have := hs2.size; have := hs3.size; have := hs4.size; have := hs5.size; have := hs6.size; have := ho1.size; have := ho2.size; have := ho3.size; omega))).trans (ho5.mono (by have := hs1.size; have := hs2.size; have := hs3.size; have := hs4.size; have := hs5.size; have := hs6.size; have := ho1.size; have := ho2.size; have := ho3.size; have := ho4.size; omega))).trans (ho6.mono (by have := hs1.size; have := hs2.size; have := hs3.size; have := hs4.size; have := hs5.size; have := hs6.size; have := ho1.size; have := ho2.size; have := ho3.size; have := ho4.size; have := ho5.size; omega))
  have d1 : o6.cell? ⟨s5.heap.size, 1, none⟩ = some (.slice (some ⟨s1.heap.size, 0, none⟩) 1 1) := by rw [c1.cell]; rfl
  have d3 : o6.cell? ⟨o5.heap.size, 1, none⟩ = some (.slice (some ⟨o1.heap.size, 0, none⟩) 1 1) := by rw [c3.cell]; rfl
  have e0 : o6.cell? ⟨s1.heap.size, 0, none⟩ = some (.string ⟨#[38, 38]⟩) := by rw [c2.cell]; rfl
  have f0 : o6.cell? ⟨o1.heap.size, 0, none⟩ = some (.int .u8 4) := by rw [c4.cell]; rfl
  clear c1 c2 c3 c4 hS1 hS2 hS3 hS4 hS5 hS6 hO1 hO2 hO3 hO4 hO5 hO6 hs1 hs2 hs3 hs4 hs5 hs6 ho1 ho2 ho3 ho4 ho5 ho6 HQ
  go_wp2_with fail
  go_loopw [7] (fun j wr => ∃ i : Nat, j = .int .i64 (i : Int) ∧ i ≤ 1 ∧ Hid ((0 < i → (ok && decide (T = [38, 38])) = false)) ∧ ∃ q, wr = o6.drewN q) (fun j _ => 1 - (intOf j).toNat)
  case atStart => exact ⟨0, rfl, by omega, fun h => absurd h (by omega), 0, rfl⟩
  case round =>
    obtain ⟨i, rfl, hi, hP, q, rfl⟩ := hrel
    have hBq : Below w.heap.size w (o6.drewN q) := hB.trans ((below_drewN o6 q).mono hB.size)
    rcases (show i = 0 ∨ i = 1 by omega) with rfl | rfl
    · have hC := HI0.out _ hBq
      by_cases hb : (ok && decide (T = [38, 38])) = true
      · rw [hb] at hC
        have hv : signV ok 1 T = 4 := by
          simp only [Bool.and_eq_true, decide_eq_true_iff] at hb
          rw [hb.1, hb.2]
          decide
        have HV : Hid (signV ok 1 T = 4) := hv
        clear hv hb hP
        go_wp2_with (first
          | (go_at_call 63; refine hC.mono ?_; rintro r u ⟨rfl, m, rfl⟩))
        go_ret
        exact ⟨by rw [HV.out]; rfl, hB.trans ((below_drewN o6 _).mono hB.size)⟩
      · have hb := Bool.eq_false_iff.2 hb
        rw [hb] at hC
        have hP2 : Hid ((0 < 1 → (ok && decide (T = [38, 38])) = false)) := fun h => hb
        clear hb hP
        go_wp2_with (first
          | (go_at_call 63; refine hC.mono ?_; rintro r u ⟨rfl, m, rfl⟩))
        go_roundw
        case rel => exact ⟨1, by go_num, by omega, hP2, _, rfl⟩
        case measure => simp [intOf]
    · have hv : signV ok 1 T = 0 := by
        unfold signV
        rw [if_neg]
        intro hh
        simp only [Bool.and_eq_true, decide_eq_true_iff] at hh
        rcases bind_rule1 T hh.2 with e
        have := hP.out (by omega); rw [hh.1, e] at this; exact absurd this (by decide)
      have HV : Hid (signV ok 1 T = 0) := hv
      clear hv hP
      go_wp2
      go_ret
      exact ⟨by rw [HV.out]; rfl, hBq⟩

theorem bind_rule2 (x : List UInt8) (h : (bindOf x).2 = 3) : x = [61, 61] ∨ x = [33, 61] ∨ x = [60] ∨ x = [60, 61] ∨ x = [62] ∨ x = [62, 61] := by
  by_cases hx : x = [61, 61] ∨ x = [33, 61] ∨ x = [60] ∨ x = [60, 61] ∨ x = [62] ∨ x = [62, 61]
  · exact hx
  · exfalso
    have hx' : x ≠ [61, 61] ∧ x ≠ [33, 61] ∧ x ≠ [60] ∧ x ≠ [60, 61] ∧ x ≠ [62] ∧ x ≠ [62, 61] := by
      refine ⟨fun e => hx (by simp [e]), fun e => hx (by simp [e]), fun e => hx (by simp [e]), fun e => hx (by simp [e]), fun e => hx (by simp [e]), fun e => hx (by simp [e])⟩
    revert h
    unfold bindOf
    have go : ∀ (c : Prop) [Decidable c] (a b : Nat × Nat), (c → a.2 ≠ 3) → b.2 ≠ 3 → (if c then a else b).2 ≠ 3 := fun c _ a b h1 h2 => by
      by_cases h : c
      · rw [if_pos h]; exact h1 h
      · rw [if_neg h]; exact h2
    refine go _ _ _ (fun c => ?_) (go _ _ _ (fun c => ?_) (go _ _ _ (fun c => ?_) (go _ _ _ (fun c => ?_) (go _ _ _ (fun c => ?_) (go _ _ _ (fun c => ?_) (go _ _ _ (fun c => ?_) (go _ _ _ (fun c => ?_) (go _ _ _ (fun c => ?_) (go _ _ _ (fun c => ?_) (go _ _ _ (fun c => ?_) (go _ _ _ (fun c => ?_) (go _ _ _ (fun c => ?_) ?_))))))))))))
    all_goals first | decide | exact absurd c (by simp [hx'])

set_option maxRecDepth 100000 in
set_option maxHeartbeats 12800000 in
theorem sign2_any {B : Nat} (g : Nat) (L : List Tk) (a : Option Addr) (c k en er pl ne bl : Nat) (w : World) (h : Qd B w g L a c k en er pl ne bl) :
    Calls Tryz.prog 144 #[.pointer (some ⟨g, 0, none⟩), .int .i64 2] w fun q w' => q = .returned (.int .u8 (signV (decide (er = 0) && decide (pl = 0)) 2 (hdT (aheadT L k en)).text : Int)) ∧ Below w.heap.size w w' := by
  have HQ : Hid (∀ u, Below w.heap.size w u → Qd B u g L a c k en er pl ne bl) := fun u hu => h.below hu
  have HI0 : Hid (∀ u, Below w.heap.size w u → Calls Tryz.prog 63 #[.pointer (some ⟨g, 0, none⟩), .string ⟨#[61, 61]⟩] u fun q w' => q = .returned (.bool ((decide (er = 0) && decide (pl = 0)) && decide ((hdT (aheadT L k en)).text = [61, 61]))) ∧ ∃ m, w' = u.drewN m) := fun u hu => is_any g L a c k en er pl ne bl ⟨#[61, 61]⟩ (by decide) u (h.below hu)
  have HI1 : Hid (∀ u, Below w.heap.size w u → Calls Tryz.prog 63 #[.pointer (some ⟨g, 0, none⟩), .string ⟨#[33, 61]⟩] u fun q w' => q = .returned (.bool ((decide (er = 0) && decide (pl = 0)) && decide ((hdT (aheadT L k en)).text = [33, 61]))) ∧ ∃ m, w' = u.drewN m) := fun u hu => is_any g L a c k en er pl ne bl ⟨#[33, 61]⟩ (by decide) u (h.below hu)
  have HI2 : Hid (∀ u, Below w.heap.size w u → Calls Tryz.prog 63 #[.pointer (some ⟨g, 0, none⟩), .string ⟨#[60]⟩] u fun q w' => q = .returned (.bool ((decide (er = 0) && decide (pl = 0)) && decide ((hdT (aheadT L k en)).text = [60]))) ∧ ∃ m, w' = u.drewN m) := fun u hu => is_any g L a c k en er pl ne bl ⟨#[60]⟩ (by decide) u (h.below hu)
  have HI3 : Hid (∀ u, Below w.heap.size w u → Calls Tryz.prog 63 #[.pointer (some ⟨g, 0, none⟩), .string ⟨#[60, 61]⟩] u fun q w' => q = .returned (.bool ((decide (er = 0) && decide (pl = 0)) && decide ((hdT (aheadT L k en)).text = [60, 61]))) ∧ ∃ m, w' = u.drewN m) := fun u hu => is_any g L a c k en er pl ne bl ⟨#[60, 61]⟩ (by decide) u (h.below hu)
  have HI4 : Hid (∀ u, Below w.heap.size w u → Calls Tryz.prog 63 #[.pointer (some ⟨g, 0, none⟩), .string ⟨#[62]⟩] u fun q w' => q = .returned (.bool ((decide (er = 0) && decide (pl = 0)) && decide ((hdT (aheadT L k en)).text = [62]))) ∧ ∃ m, w' = u.drewN m) := fun u hu => is_any g L a c k en er pl ne bl ⟨#[62]⟩ (by decide) u (h.below hu)
  have HI5 : Hid (∀ u, Below w.heap.size w u → Calls Tryz.prog 63 #[.pointer (some ⟨g, 0, none⟩), .string ⟨#[62, 61]⟩] u fun q w' => q = .returned (.bool ((decide (er = 0) && decide (pl = 0)) && decide ((hdT (aheadT L k en)).text = [62, 61]))) ∧ ∃ m, w' = u.drewN m) := fun u hu => is_any g L a c k en er pl ne bl ⟨#[62, 61]⟩ (by decide) u (h.below hu)
  generalize (decide (er = 0) && decide (pl = 0)) = ok at *
  generalize (hdT (aheadT L k en)).text = T at *
  clear h
  go_enter Tryz.func144, Tryz.ntmps144
  go_wp2_with (first | ((with_reducible show wpList _ _ _ _ _ _); refine wpList_rowOf (o := { dst := some 8, .. }) rfl 23 9 1 _ rfl Tryz.underlying23 ir9 [.string ⟨#[124, 124]⟩] (by decide) (by decide) (by kernel_rfl) ?_; intro s1 hS1 hs1 hs; clear hs; refine Hid.out ?_))
  refine hidU ?_
  go_wp2_with (first | ((with_reducible show wpList _ _ _ _ _ _); refine wpList_rowOf (o := { dst := some 9, .. }) rfl 23 9 1 _ rfl Tryz.underlying23 ir9 [.string ⟨#[38, 38]⟩] (by decide) (by decide) (by kernel_rfl) ?_; intro s2 hS2 hs2 hs; clear hs; refine Hid.out ?_))
  refine hidU ?_
  go_wp2_with (first | ((with_reducible show wpList _ _ _ _ _ _); refine wpList_rowOf (o := { dst := some 10, .. }) rfl 23 9 6 _ rfl Tryz.underlying23 ir9 [.string ⟨#[61, 61]⟩, .string ⟨#[33, 61]⟩, .string ⟨#[60]⟩, .string ⟨#[60, 61]⟩, .string ⟨#[62]⟩, .string ⟨#[62, 61]⟩] (by decide) (by decide) (by kernel_rfl) ?_; intro s3 hS3 hs3 hs; clear hs; refine Hid.out ?_))
  refine hidU ?_
  go_wp2_with (first | ((with_reducible show wpList _ _ _ _ _ _); refine wpList_rowOf (o := { dst := some 11, .. }) rfl 23 9 2 _ rfl Tryz.underlying23 ir9 [.string ⟨#[43]⟩, .string ⟨#[45]⟩] (by decide) (by decide) (by kernel_rfl) ?_; intro s4 hS4 hs4 hs; clear hs; refine Hid.out ?_))
  refine hidU ?_
  go_wp2_with (first | ((with_reducible show wpList _ _ _ _ _ _); refine wpList_rowOf (o := { dst := some 12, .. }) rfl 23 9 3 _ rfl Tryz.underlying23 ir9 [.string ⟨#[42]⟩, .string ⟨#[47]⟩, .string ⟨#[37]⟩] (by decide) (by decide) (by kernel_rfl) ?_; intro s5 hS5 hs5 hs; clear hs; refine Hid.out ?_))
  refine hidU ?_
  go_wp2_with (first | ((with_reducible show wpList _ _ _ _ _ _); refine wpList_rowOf (o := { dst := some 13, .. }) rfl 185 23 5 _ rfl Tryz.underlying185 ir23 [.slice (some ⟨w.heap.size, 0, none⟩) 1 1, .slice (some ⟨s1.heap.size, 0, none⟩) 1 1, .slice (some ⟨s2.heap.size, 0, none⟩) 6 6, .slice (some ⟨s3.heap.size, 0, none⟩) 2 2, .slice (some ⟨s4.heap.size, 0, none⟩) 3 3] (by decide) (by decide) (by kernel_rfl) ?_; intro s6 hS6 hs6 hs; clear hs; refine Hid.out ?_))
  refine hidU ?_
  go_wp2_with (first | ((with_reducible show wpList _ _ _ _ _ _); refine wpList_rowOf (o := { dst := some 14, .. }) rfl 186 36 1 _ rfl Tryz.underlying186 ir36 [.int .u8 3] (by decide) (by decide) (by kernel_rfl) ?_; intro o1 hO1 ho1 hs; clear hs; refine Hid.out ?_))
  refine hidU ?_
  go_wp2_with (first | ((with_reducible show wpList _ _ _ _ _ _); refine wpList_rowOf (o := { dst := some 15, .. }) rfl 186 36 1 _ rfl Tryz.underlying186 ir36 [.int .u8 4] (by decide) (by decide) (by kernel_rfl) ?_; intro o2 hO2 ho2 hs; clear hs; refine Hid.out ?_))
  refine hidU ?_
  go_wp2_with (first | ((with_reducible show wpList _ _ _ _ _ _); refine wpList_rowOf (o := { dst := some 16, .. }) rfl 186 36 6 _ rfl Tryz.underlying186 ir36 [.int .u8 5, .int .u8 6, .int .u8 7, .int .u8 8, .int .u8 9, .int .u8 10] (by decide) (by decide) (by kernel_rfl) ?_; intro o3 hO3 ho3 hs; clear hs; refine Hid.out ?_))
  refine hidU ?_
  go_wp2_with (first | ((with_reducible show wpList _ _ _ _ _ _); refine wpList_rowOf (o := { dst := some 17, .. }) rfl 186 36 2 _ rfl Tryz.underlying186 ir36 [.int .u8 11, .int .u8 12] (by decide) (by decide) (by kernel_rfl) ?_; intro o4 hO4 ho4 hs; clear hs; refine Hid.out ?_))
  refine hidU ?_
  go_wp2_with (first | ((with_reducible show wpList _ _ _ _ _ _); refine wpList_rowOf (o := { dst := some 18, .. }) rfl 186 36 3 _ rfl Tryz.underlying186 ir36 [.int .u8 13, .int .u8 14, .int .u8 15] (by decide) (by decide) (by kernel_rfl) ?_; intro o5 hO5 ho5 hs; clear hs; refine Hid.out ?_))
  refine hidU ?_
  go_wp2_with (first | ((with_reducible show wpList _ _ _ _ _ _); refine wpList_rowOf (o := { dst := some 19, .. }) rfl 187 186 5 _ rfl Tryz.underlying187 ir186 [.slice (some ⟨s6.heap.size, 0, none⟩) 1 1, .slice (some ⟨o1.heap.size, 0, none⟩) 1 1, .slice (some ⟨o2.heap.size, 0, none⟩) 6 6, .slice (some ⟨o3.heap.size, 0, none⟩) 2 2, .slice (some ⟨o4.heap.size, 0, none⟩) 3 3] (by decide) (by decide) (by kernel_rfl) ?_; intro o6 hO6 ho6 hs; clear hs; refine Hid.out ?_))
  refine hidU ?_
  have c1 := ((((((hS6).below ho1).below ho2).below ho3).below ho4).below ho5).below ho6
  have c2 := (((((((((hS3).below hs4).below hs5).below hs6).below ho1).below ho2).below ho3).below ho4).below ho5).below ho6
  have c3 := hO6
  have c4 := (((hO3).below ho4).below ho5).below ho6
  have hB : Below w.heap.size w o6 := ((((((((((hs1.trans (hs2.mono hs1.size)).trans (hs3.mono (Nat.le_trans hs1.size hs2.size))).trans (hs4.mono (by have := hs1.size; have := hs2.size; have := hs3.size; omega))).trans (hs5.mono (by have := hs1.size; have := hs2.size; have := hs3.size; have := hs4.size; omega))).trans (hs6.mono (by have := hs1.size; have := hs2.size; have := hs3.size; have := hs4.size; have := hs5.size; omega))).trans (ho1.mono (by have := hs1.size; have := hs2.size; have := hs3.size; have := hs4.size; have := hs5.size; have := hs6.size; omega))).trans (ho2.mono (by have := hs1.size; have := hs2.size; have := hs3.size; have := hs4.size; have := hs5.size; have := hs6.size; have := ho1.size; omega))).trans (ho3.mono (by have := hs1.size; have := hs2.size; have := hs3.size; have := hs4.size; have := hs5.size; have := hs6.size; have := ho1.size; have := ho2.size; omega))).trans (ho4.mono (by have := hs1.size; have := hs2.size; have := hs3.size; have := hs4.size; have := hs5.size; have := hs6.size; have := ho1.size; have := ho2.size; have := ho3.size; omega))).trans (ho5.mono (by have := hs1.size; have := hs2.size; have := hs3.size; have := hs4.size; have := hs5.size; have := hs6.size; have := ho1.size; have := ho2.size; have := ho3.size; have := ho4.size; omega))).trans (ho6.mono (by have := hs1.size; have := hs2.size; have := hs3.size; have := hs4.size; have := hs5.size; have := hs6.size; have := ho1.size; have := ho2.size; have := ho3.size; have := ho4.size; have := ho5.size; omega))
  have d1 : o6.cell? ⟨s5.heap.size, 2, none⟩ = some (.slice (some ⟨s2.heap.size, 0, none⟩) 6 6) := by rw [c1.cell]; rfl
  have d3 : o6.cell? ⟨o5.heap.size, 2, none⟩ = some (.slice (some ⟨o2.heap.size, 0, none⟩) 6 6) := by rw [c3.cell]; rfl
  have e0 : o6.cell? ⟨s2.heap.size, 0, none⟩ = some (.string ⟨#[61, 61]⟩) := by rw [c2.cell]; rfl
  have f0 : o6.cell? ⟨o2.heap.size, 0, none⟩ = some (.int .u8 5) := by rw [c4.cell]; rfl
  have e1 : o6.cell? ⟨s2.heap.size, 1, none⟩ = some (.string ⟨#[33, 61]⟩) := by rw [c2.cell]; rfl
  have f1 : o6.cell? ⟨o2.heap.size, 1, none⟩ = some (.int .u8 6) := by rw [c4.cell]; rfl
  have e2 : o6.cell? ⟨s2.heap.size, 2, none⟩ = some (.string ⟨#[60]⟩) := by rw [c2.cell]; rfl
  have f2 : o6.cell? ⟨o2.heap.size, 2, none⟩ = some (.int .u8 7) := by rw [c4.cell]; rfl
  have e3 : o6.cell? ⟨s2.heap.size, 3, none⟩ = some (.string ⟨#[60, 61]⟩) := by rw [c2.cell]; rfl
  have f3 : o6.cell? ⟨o2.heap.size, 3, none⟩ = some (.int .u8 8) := by rw [c4.cell]; rfl
  have e4 : o6.cell? ⟨s2.heap.size, 4, none⟩ = some (.string ⟨#[62]⟩) := by rw [c2.cell]; rfl
  have f4 : o6.cell? ⟨o2.heap.size, 4, none⟩ = some (.int .u8 9) := by rw [c4.cell]; rfl
  have e5 : o6.cell? ⟨s2.heap.size, 5, none⟩ = some (.string ⟨#[62, 61]⟩) := by rw [c2.cell]; rfl
  have f5 : o6.cell? ⟨o2.heap.size, 5, none⟩ = some (.int .u8 10) := by rw [c4.cell]; rfl
  clear c1 c2 c3 c4 hS1 hS2 hS3 hS4 hS5 hS6 hO1 hO2 hO3 hO4 hO5 hO6 hs1 hs2 hs3 hs4 hs5 hs6 ho1 ho2 ho3 ho4 ho5 ho6 HQ
  go_wp2_with fail
  go_loopw [7] (fun j wr => ∃ i : Nat, j = .int .i64 (i : Int) ∧ i ≤ 6 ∧ Hid ((0 < i → (ok && decide (T = [61, 61])) = false) ∧ (1 < i → (ok && decide (T = [33, 61])) = false) ∧ (2 < i → (ok && decide (T = [60])) = false) ∧ (3 < i → (ok && decide (T = [60, 61])) = false) ∧ (4 < i → (ok && decide (T = [62])) = false) ∧ (5 < i → (ok && decide (T = [62, 61])) = false)) ∧ ∃ q, wr = o6.drewN q) (fun j _ => 6 - (intOf j).toNat)
  case atStart => exact ⟨0, rfl, by omega, ⟨fun h => absurd h (by omega), fun h => absurd h (by omega), fun h => absurd h (by omega), fun h => absurd h (by omega), fun h => absurd h (by omega), fun h => absurd h (by omega)⟩, 0, rfl⟩
  case round =>
    obtain ⟨i, rfl, hi, hP, q, rfl⟩ := hrel
    have hBq : Below w.heap.size w (o6.drewN q) := hB.trans ((below_drewN o6 q).mono hB.size)
    rcases (show i = 0 ∨ i = 1 ∨ i = 2 ∨ i = 3 ∨ i = 4 ∨ i = 5 ∨ i = 6 by omega) with rfl | rfl | rfl | rfl | rfl | rfl | rfl
    · have hC := HI0.out _ hBq
      by_cases hb : (ok && decide (T = [61, 61])) = true
      · rw [hb] at hC
        have hv : signV ok 2 T = 5 := by
          simp only [Bool.and_eq_true, decide_eq_true_iff] at hb
          rw [hb.1, hb.2]
          decide
        have HV : Hid (signV ok 2 T = 5) := hv
        clear hv hb hP
        go_wp2_with (first
          | (go_at_call 63; refine hC.mono ?_; rintro r u ⟨rfl, m, rfl⟩))
        go_ret
        exact ⟨by rw [HV.out]; rfl, hB.trans ((below_drewN o6 _).mono hB.size)⟩
      · have hb := Bool.eq_false_iff.2 hb
        rw [hb] at hC
        have hP2 : Hid ((0 < 1 → (ok && decide (T = [61, 61])) = false) ∧ (1 < 1 → (ok && decide (T = [33, 61])) = false) ∧ (2 < 1 → (ok && decide (T = [60])) = false) ∧ (3 < 1 → (ok && decide (T = [60, 61])) = false) ∧ (4 < 1 → (ok && decide (T = [62])) = false) ∧ (5 < 1 → (ok && decide (T = [62, 61])) = false)) := ⟨fun h => hb, fun h => absurd h (by omega), fun h => absurd h (by omega), fun h => absurd h (by omega), fun h => absurd h (by omega), fun h => absurd h (by omega)⟩
        clear hb hP
        go_wp2_with (first
          | (go_at_call 63; refine hC.mono ?_; rintro r u ⟨rfl, m, rfl⟩))
        go_roundw
        case rel => exact ⟨1, by go_num, by omega, hP2, _, rfl⟩
        case measure => simp [intOf]
    · have hC := HI1.out _ hBq
      by_cases hb : (ok && decide (T = [33, 61])) = true
      · rw [hb] at hC
        have hv : signV ok 2 T = 6 := by
          simp only [Bool.and_eq_true, decide_eq_true_iff] at hb
          rw [hb.1, hb.2]
          decide
        have HV : Hid (signV ok 2 T = 6) := hv
        clear hv hb hP
        go_wp2_with (first
          | (go_at_call 63; refine hC.mono ?_; rintro r u ⟨rfl, m, rfl⟩))
        go_ret
        exact ⟨by rw [HV.out]; rfl, hB.trans ((below_drewN o6 _).mono hB.size)⟩
      · have hb := Bool.eq_false_iff.2 hb
        rw [hb] at hC
        have hP2 : Hid ((0 < 2 → (ok && decide (T = [61, 61])) = false) ∧ (1 < 2 → (ok && decide (T = [33, 61])) = false) ∧ (2 < 2 → (ok && decide (T = [60])) = false) ∧ (3 < 2 → (ok && decide (T = [60, 61])) = false) ∧ (4 < 2 → (ok && decide (T = [62])) = false) ∧ (5 < 2 → (ok && decide (T = [62, 61])) = false)) := ⟨fun h => hP.out.1 (by omega), fun h => hb, fun h => absurd h (by omega), fun h => absurd h (by omega), fun h => absurd h (by omega), fun h => absurd h (by omega)⟩
        clear hb hP
        go_wp2_with (first
          | (go_at_call 63; refine hC.mono ?_; rintro r u ⟨rfl, m, rfl⟩))
        go_roundw
        case rel => exact ⟨2, by go_num, by omega, hP2, _, rfl⟩
        case measure => simp [intOf]
    · have hC := HI2.out _ hBq
      by_cases hb : (ok && decide (T = [60])) = true
      · rw [hb] at hC
        have hv : signV ok 2 T = 7 := by
          simp only [Bool.and_eq_true, decide_eq_true_iff] at hb
          rw [hb.1, hb.2]
          decide
        have HV : Hid (signV ok 2 T = 7) := hv
        clear hv hb hP
        go_wp2_with (first
          | (go_at_call 63; refine hC.mono ?_; rintro r u ⟨rfl, m, rfl⟩))
        go_ret
        exact ⟨by rw [HV.out]; rfl, hB.trans ((below_drewN o6 _).mono hB.size)⟩
      · have hb := Bool.eq_false_iff.2 hb
        rw [hb] at hC
        have hP2 : Hid ((0 < 3 → (ok && decide (T = [61, 61])) = false) ∧ (1 < 3 → (ok && decide (T = [33, 61])) = false) ∧ (2 < 3 → (ok && decide (T = [60])) = false) ∧ (3 < 3 → (ok && decide (T = [60, 61])) = false) ∧ (4 < 3 → (ok && decide (T = [62])) = false) ∧ (5 < 3 → (ok && decide (T = [62, 61])) = false)) := ⟨fun h => hP.out.1 (by omega), fun h => hP.out.2.1 (by omega), fun h => hb, fun h => absurd h (by omega), fun h => absurd h (by omega), fun h => absurd h (by omega)⟩
        clear hb hP
        go_wp2_with (first
          | (go_at_call 63; refine hC.mono ?_; rintro r u ⟨rfl, m, rfl⟩))
        go_roundw
        case rel => exact ⟨3, by go_num, by omega, hP2, _, rfl⟩
        case measure => simp [intOf]
    · have hC := HI3.out _ hBq
      by_cases hb : (ok && decide (T = [60, 61])) = true
      · rw [hb] at hC
        have hv : signV ok 2 T = 8 := by
          simp only [Bool.and_eq_true, decide_eq_true_iff] at hb
          rw [hb.1, hb.2]
          decide
        have HV : Hid (signV ok 2 T = 8) := hv
        clear hv hb hP
        go_wp2_with (first
          | (go_at_call 63; refine hC.mono ?_; rintro r u ⟨rfl, m, rfl⟩))
        go_ret
        exact ⟨by rw [HV.out]; rfl, hB.trans ((below_drewN o6 _).mono hB.size)⟩
      · have hb := Bool.eq_false_iff.2 hb
        rw [hb] at hC
        have hP2 : Hid ((0 < 4 → (ok && decide (T = [61, 61])) = false) ∧ (1 < 4 → (ok && decide (T = [33, 61])) = false) ∧ (2 < 4 → (ok && decide (T = [60])) = false) ∧ (3 < 4 → (ok && decide (T = [60, 61])) = false) ∧ (4 < 4 → (ok && decide (T = [62])) = false) ∧ (5 < 4 → (ok && decide (T = [62, 61])) = false)) := ⟨fun h => hP.out.1 (by omega), fun h => hP.out.2.1 (by omega), fun h => hP.out.2.2.1 (by omega), fun h => hb, fun h => absurd h (by omega), fun h => absurd h (by omega)⟩
        clear hb hP
        go_wp2_with (first
          | (go_at_call 63; refine hC.mono ?_; rintro r u ⟨rfl, m, rfl⟩))
        go_roundw
        case rel => exact ⟨4, by go_num, by omega, hP2, _, rfl⟩
        case measure => simp [intOf]
    · have hC := HI4.out _ hBq
      by_cases hb : (ok && decide (T = [62])) = true
      · rw [hb] at hC
        have hv : signV ok 2 T = 9 := by
          simp only [Bool.and_eq_true, decide_eq_true_iff] at hb
          rw [hb.1, hb.2]
          decide
        have HV : Hid (signV ok 2 T = 9) := hv
        clear hv hb hP
        go_wp2_with (first
          | (go_at_call 63; refine hC.mono ?_; rintro r u ⟨rfl, m, rfl⟩))
        go_ret
        exact ⟨by rw [HV.out]; rfl, hB.trans ((below_drewN o6 _).mono hB.size)⟩
      · have hb := Bool.eq_false_iff.2 hb
        rw [hb] at hC
        have hP2 : Hid ((0 < 5 → (ok && decide (T = [61, 61])) = false) ∧ (1 < 5 → (ok && decide (T = [33, 61])) = false) ∧ (2 < 5 → (ok && decide (T = [60])) = false) ∧ (3 < 5 → (ok && decide (T = [60, 61])) = false) ∧ (4 < 5 → (ok && decide (T = [62])) = false) ∧ (5 < 5 → (ok && decide (T = [62, 61])) = false)) := ⟨fun h => hP.out.1 (by omega), fun h => hP.out.2.1 (by omega), fun h => hP.out.2.2.1 (by omega), fun h => hP.out.2.2.2.1 (by omega), fun h => hb, fun h => absurd h (by omega)⟩
        clear hb hP
        go_wp2_with (first
          | (go_at_call 63; refine hC.mono ?_; rintro r u ⟨rfl, m, rfl⟩))
        go_roundw
        case rel => exact ⟨5, by go_num, by omega, hP2, _, rfl⟩
        case measure => simp [intOf]
    · have hC := HI5.out _ hBq
      by_cases hb : (ok && decide (T = [62, 61])) = true
      · rw [hb] at hC
        have hv : signV ok 2 T = 10 := by
          simp only [Bool.and_eq_true, decide_eq_true_iff] at hb
          rw [hb.1, hb.2]
          decide
        have HV : Hid (signV ok 2 T = 10) := hv
        clear hv hb hP
        go_wp2_with (first
          | (go_at_call 63; refine hC.mono ?_; rintro r u ⟨rfl, m, rfl⟩))
        go_ret
        exact ⟨by rw [HV.out]; rfl, hB.trans ((below_drewN o6 _).mono hB.size)⟩
      · have hb := Bool.eq_false_iff.2 hb
        rw [hb] at hC
        have hP2 : Hid ((0 < 6 → (ok && decide (T = [61, 61])) = false) ∧ (1 < 6 → (ok && decide (T = [33, 61])) = false) ∧ (2 < 6 → (ok && decide (T = [60])) = false) ∧ (3 < 6 → (ok && decide (T = [60, 61])) = false) ∧ (4 < 6 → (ok && decide (T = [62])) = false) ∧ (5 < 6 → (ok && decide (T = [62, 61])) = false)) := ⟨fun h => hP.out.1 (by omega), fun h => hP.out.2.1 (by omega), fun h => hP.out.2.2.1 (by omega), fun h => hP.out.2.2.2.1 (by omega), fun h => hP.out.2.2.2.2.1 (by omega), fun h => hb⟩
        clear hb hP
        go_wp2_with (first
          | (go_at_call 63; refine hC.mono ?_; rintro r u ⟨rfl, m, rfl⟩))
        go_roundw
        case rel => exact ⟨6, by go_num, by omega, hP2, _, rfl⟩
        case measure => simp [intOf]
    · have hv : signV ok 2 T = 0 := by
        unfold signV
        rw [if_neg]
        intro hh
        simp only [Bool.and_eq_true, decide_eq_true_iff] at hh
        rcases bind_rule2 T hh.2 with e | e | e | e | e | e
        · have := hP.out.1 (by omega); rw [hh.1, e] at this; exact absurd this (by decide)
        · have := hP.out.2.1 (by omega); rw [hh.1, e] at this; exact absurd this (by decide)
        · have := hP.out.2.2.1 (by omega); rw [hh.1, e] at this; exact absurd this (by decide)
        · have := hP.out.2.2.2.1 (by omega); rw [hh.1, e] at this; exact absurd this (by decide)
        · have := hP.out.2.2.2.2.1 (by omega); rw [hh.1, e] at this; exact absurd this (by decide)
        · have := hP.out.2.2.2.2.2 (by omega); rw [hh.1, e] at this; exact absurd this (by decide)
      have HV : Hid (signV ok 2 T = 0) := hv
      clear hv hP
      go_wp2
      go_ret
      exact ⟨by rw [HV.out]; rfl, hBq⟩

theorem bind_rule3 (x : List UInt8) (h : (bindOf x).2 = 4) : x = [43] ∨ x = [45] := by
  by_cases hx : x = [43] ∨ x = [45]
  · exact hx
  · exfalso
    have hx' : x ≠ [43] ∧ x ≠ [45] := by
      refine ⟨fun e => hx (by simp [e]), fun e => hx (by simp [e])⟩
    revert h
    unfold bindOf
    have go : ∀ (c : Prop) [Decidable c] (a b : Nat × Nat), (c → a.2 ≠ 4) → b.2 ≠ 4 → (if c then a else b).2 ≠ 4 := fun c _ a b h1 h2 => by
      by_cases h : c
      · rw [if_pos h]; exact h1 h
      · rw [if_neg h]; exact h2
    refine go _ _ _ (fun c => ?_) (go _ _ _ (fun c => ?_) (go _ _ _ (fun c => ?_) (go _ _ _ (fun c => ?_) (go _ _ _ (fun c => ?_) (go _ _ _ (fun c => ?_) (go _ _ _ (fun c => ?_) (go _ _ _ (fun c => ?_) (go _ _ _ (fun c => ?_) (go _ _ _ (fun c => ?_) (go _ _ _ (fun c => ?_) (go _ _ _ (fun c => ?_) (go _ _ _ (fun c => ?_) ?_))))))))))))
    all_goals first | decide | exact absurd c (by simp [hx'])

set_option maxRecDepth 100000 in
set_option maxHeartbeats 12800000 in
theorem sign3_any {B : Nat} (g : Nat) (L : List Tk) (a : Option Addr) (c k en er pl ne bl : Nat) (w : World) (h : Qd B w g L a c k en er pl ne bl) :
    Calls Tryz.prog 144 #[.pointer (some ⟨g, 0, none⟩), .int .i64 3] w fun q w' => q = .returned (.int .u8 (signV (decide (er = 0) && decide (pl = 0)) 3 (hdT (aheadT L k en)).text : Int)) ∧ Below w.heap.size w w' := by
  have HQ : Hid (∀ u, Below w.heap.size w u → Qd B u g L a c k en er pl ne bl) := fun u hu => h.below hu
  have HI0 : Hid (∀ u, Below w.heap.size w u → Calls Tryz.prog 63 #[.pointer (some ⟨g, 0, none⟩), .string ⟨#[43]⟩] u fun q w' => q = .returned (.bool ((decide (er = 0) && decide (pl = 0)) && decide ((hdT (aheadT L k en)).text = [43]))) ∧ ∃ m, w' = u.drewN m) := fun u hu => is_any g L a c k en er pl ne bl ⟨#[43]⟩ (by decide) u (h.below hu)
  have HI1 : Hid (∀ u, Below w.heap.size w u → Calls Tryz.prog 63 #[.pointer (some ⟨g, 0, none⟩), .string ⟨#[45]⟩] u fun q w' => q = .returned (.bool ((decide (er = 0) && decide (pl = 0)) && decide ((hdT (aheadT L k en)).text = [45]))) ∧ ∃ m, w' = u.drewN m) := fun u hu => is_any g L a c k en er pl ne bl ⟨#[45]⟩ (by decide) u (h.below hu)
  generalize (decide (er = 0) && decide (pl = 0)) = ok at *
  generalize (hdT (aheadT L k en)).text = T at *
  clear h
  go_enter Tryz.func144, Tryz.ntmps144
  go_wp2_with (first | ((with_reducible show wpList _ _ _ _ _ _); refine wpList_rowOf (o := { dst := some 8, .. }) rfl 23 9 1 _ rfl Tryz.underlying23 ir9 [.string ⟨#[124, 124]⟩] (by decide) (by decide) (by kernel_rfl) ?_; intro s1 hS1 hs1 hs; clear hs; refine Hid.out ?_))
  refine hidU ?_
  go_wp2_with (first | ((with_reducible show wpList _ _ _ _ _ _); refine wpList_rowOf (o := { dst := some 9, .. }) rfl 23 9 1 _ rfl Tryz.underlying23 ir9 [.string ⟨#[38, 38]⟩] (by decide) (by decide) (by kernel_rfl) ?_; intro s2 hS2 hs2 hs; clear hs; refine Hid.out ?_))
  refine hidU ?_
  go_wp2_with (first | ((with_reducible show wpList _ _ _ _ _ _); refine wpList_rowOf (o := { dst := some 10, .. }) rfl 23 9 6 _ rfl Tryz.underlying23 ir9 [.string ⟨#[61, 61]⟩, .string ⟨#[33, 61]⟩, .string ⟨#[60]⟩, .string ⟨#[60, 61]⟩, .string ⟨#[62]⟩, .string ⟨#[62, 61]⟩] (by decide) (by decide) (by kernel_rfl) ?_; intro s3 hS3 hs3 hs; clear hs; refine Hid.out ?_))
  refine hidU ?_
  go_wp2_with (first | ((with_reducible show wpList _ _ _ _ _ _); refine wpList_rowOf (o := { dst := some 11, .. }) rfl 23 9 2 _ rfl Tryz.underlying23 ir9 [.string ⟨#[43]⟩, .string ⟨#[45]⟩] (by decide) (by decide) (by kernel_rfl) ?_; intro s4 hS4 hs4 hs; clear hs; refine Hid.out ?_))
  refine hidU ?_
  go_wp2_with (first | ((with_reducible show wpList _ _ _ _ _ _); refine wpList_rowOf (o := { dst := some 12, .. }) rfl 23 9 3 _ rfl Tryz.underlying23 ir9 [.string ⟨#[42]⟩, .string ⟨#[47]⟩, .string ⟨#[37]⟩] (by decide) (by decide) (by kernel_rfl) ?_; intro s5 hS5 hs5 hs; clear hs; refine Hid.out ?_))
  refine hidU ?_
  go_wp2_with (first | ((with_reducible show wpList _ _ _ _ _ _); refine wpList_rowOf (o := { dst := some 13, .. }) rfl 185 23 5 _ rfl Tryz.underlying185 ir23 [.slice (some ⟨w.heap.size, 0, none⟩) 1 1, .slice (some ⟨s1.heap.size, 0, none⟩) 1 1, .slice (some ⟨s2.heap.size, 0, none⟩) 6 6, .slice (some ⟨s3.heap.size, 0, none⟩) 2 2, .slice (some ⟨s4.heap.size, 0, none⟩) 3 3] (by decide) (by decide) (by kernel_rfl) ?_; intro s6 hS6 hs6 hs; clear hs; refine Hid.out ?_))
  refine hidU ?_
  go_wp2_with (first | ((with_reducible show wpList _ _ _ _ _ _); refine wpList_rowOf (o := { dst := some 14, .. }) rfl 186 36 1 _ rfl Tryz.underlying186 ir36 [.int .u8 3] (by decide) (by decide) (by kernel_rfl) ?_; intro o1 hO1 ho1 hs; clear hs; refine Hid.out ?_))
  refine hidU ?_
  go_wp2_with (first | ((with_reducible show wpList _ _ _ _ _ _); refine wpList_rowOf (o := { dst := some 15, .. }) rfl 186 36 1 _ rfl Tryz.underlying186 ir36 [.int .u8 4] (by decide) (by decide) (by kernel_rfl) ?_; intro o2 hO2 ho2 hs; clear hs; refine Hid.out ?_))
  refine hidU ?_
  go_wp2_with (first | ((with_reducible show wpList _ _ _ _ _ _); refine wpList_rowOf (o := { dst := some 16, .. }) rfl 186 36 6 _ rfl Tryz.underlying186 ir36 [.int .u8 5, .int .u8 6, .int .u8 7, .int .u8 8, .int .u8 9, .int .u8 10] (by decide) (by decide) (by kernel_rfl) ?_; intro o3 hO3 ho3 hs; clear hs; refine Hid.out ?_))
  refine hidU ?_
  go_wp2_with (first | ((with_reducible show wpList _ _ _ _ _ _); refine wpList_rowOf (o := { dst := some 17, .. }) rfl 186 36 2 _ rfl Tryz.underlying186 ir36 [.int .u8 11, .int .u8 12] (by decide) (by decide) (by kernel_rfl) ?_; intro o4 hO4 ho4 hs; clear hs; refine Hid.out ?_))
  refine hidU ?_
  go_wp2_with (first | ((with_reducible show wpList _ _ _ _ _ _); refine wpList_rowOf (o := { dst := some 18, .. }) rfl 186 36 3 _ rfl Tryz.underlying186 ir36 [.int .u8 13, .int .u8 14, .int .u8 15] (by decide) (by decide) (by kernel_rfl) ?_; intro o5 hO5 ho5 hs; clear hs; refine Hid.out ?_))
  refine hidU ?_
  go_wp2_with (first | ((with_reducible show wpList _ _ _ _ _ _); refine wpList_rowOf (o := { dst := some 19, .. }) rfl 187 186 5 _ rfl Tryz.underlying187 ir186 [.slice (some ⟨s6.heap.size, 0, none⟩) 1 1, .slice (some ⟨o1.heap.size, 0, none⟩) 1 1, .slice (some ⟨o2.heap.size, 0, none⟩) 6 6, .slice (some ⟨o3.heap.size, 0, none⟩) 2 2, .slice (some ⟨o4.heap.size, 0, none⟩) 3 3] (by decide) (by decide) (by kernel_rfl) ?_; intro o6 hO6 ho6 hs; clear hs; refine Hid.out ?_))
  refine hidU ?_
  have c1 := ((((((hS6).below ho1).below ho2).below ho3).below ho4).below ho5).below ho6
  have c2 := ((((((((hS4).below hs5).below hs6).below ho1).below ho2).below ho3).below ho4).below ho5).below ho6
  have c3 := hO6
  have c4 := ((hO4).below ho5).below ho6
  have hB : Below w.heap.size w o6 := ((((((((((hs1.trans (hs2.mono hs1.size)).trans (hs3.mono (Nat.le_trans hs1.size hs2.size))).trans (hs4.mono (by have := hs1.size; have := hs2.size; have := hs3.size; omega))).trans (hs5.mono (by have := hs1.size; have := hs2.size; have := hs3.size; have := hs4.size; omega))).trans (hs6.mono (by have := hs1.size; have := hs2.size; have := hs3.size; have := hs4.size; have := hs5.size; omega))).trans (ho1.mono (by have := hs1.size; have := hs2.size; have := hs3.size; have := hs4.size; have := hs5.size; have := hs6.size; omega))).trans (ho2.mono (by have := hs1.size; have := hs2.size; have := hs3.size; have := hs4.size; have := hs5.size; have := hs6.size; have := ho1.size; omega))).trans (ho3.mono (by have := hs1.size; have := hs2.size; have := hs3.size; have := hs4.size; have := hs5.size; have := hs6.size; have := ho1.size; have := ho2.size; omega))).trans (ho4.mono (by have := hs1.size; have := hs2.size; have := hs3.size; have := hs4.size; have := hs5.size; have := hs6.size; have := ho1.size; have := ho2.size; have := ho3.size; omega))).trans (ho5.mono (by have := hs1.size; have := hs2.size; have := hs3.size; have := hs4.size; have := hs5.size; have := hs6.size; have := ho1.size; have := ho2.size; have := ho3.size; have := ho4.size; omega))).trans (ho6.mono (by have := hs1.size; have := hs2.size; have := hs3.size; have := hs4.size; have := hs5.size; have := hs6.size; have := ho1.size; have := ho2.size; have := ho3.size; have := ho4.size; have := ho5.size; omega))
  have d1 : o6.cell? ⟨s5.heap.size, 3, none⟩ = some (.slice (some ⟨s3.heap.size, 0, none⟩) 2 2) := by rw [c1.cell]; rfl
  have d3 : o6.cell? ⟨o5.heap.size, 3, none⟩ = some (.slice (some ⟨o3.heap.size, 0, none⟩) 2 2) := by rw [c3.cell]; rfl
  have e0 : o6.cell? ⟨s3.heap.size, 0, none⟩ = some (.string ⟨#[43]⟩) := by rw [c2.cell]; rfl
  have f0 : o6.cell? ⟨o3.heap.size, 0, none⟩ = some (.int .u8 11) := by rw [c4.cell]; rfl
  have e1 : o6.cell? ⟨s3.heap.size, 1, none⟩ = some (.string ⟨#[45]⟩) := by rw [c2.cell]; rfl
  have f1 : o6.cell? ⟨o3.heap.size, 1, none⟩ = some (.int .u8 12) := by rw [c4.cell]; rfl
  clear c1 c2 c3 c4 hS1 hS2 hS3 hS4 hS5 hS6 hO1 hO2 hO3 hO4 hO5 hO6 hs1 hs2 hs3 hs4 hs5 hs6 ho1 ho2 ho3 ho4 ho5 ho6 HQ
  go_wp2_with fail
  go_loopw [7] (fun j wr => ∃ i : Nat, j = .int .i64 (i : Int) ∧ i ≤ 2 ∧ Hid ((0 < i → (ok && decide (T = [43])) = false) ∧ (1 < i → (ok && decide (T = [45])) = false)) ∧ ∃ q, wr = o6.drewN q) (fun j _ => 2 - (intOf j).toNat)
  case atStart => exact ⟨0, rfl, by omega, ⟨fun h => absurd h (by omega), fun h => absurd h (by omega)⟩, 0, rfl⟩
  case round =>
    obtain ⟨i, rfl, hi, hP, q, rfl⟩ := hrel
    have hBq : Below w.heap.size w (o6.drewN q) := hB.trans ((below_drewN o6 q).mono hB.size)
    rcases (show i = 0 ∨ i = 1 ∨ i = 2 by omega) with rfl | rfl | rfl
    · have hC := HI0.out _ hBq
      by_cases hb : (ok && decide (T = [43])) = true
      · rw [hb] at hC
        have hv : signV ok 3 T = 11 := by
          simp only [Bool.and_eq_true, decide_eq_true_iff] at hb
          rw [hb.1, hb.2]
          decide
        have HV : Hid (signV ok 3 T = 11) := hv
        clear hv hb hP
        go_wp2_with (first
          | (go_at_call 63; refine hC.mono ?_; rintro r u ⟨rfl, m, rfl⟩))
        go_ret
        exact ⟨by rw [HV.out]; rfl, hB.trans ((below_drewN o6 _).mono hB.size)⟩
      · have hb := Bool.eq_false_iff.2 hb
        rw [hb] at hC
        have hP2 : Hid ((0 < 1 → (ok && decide (T = [43])) = false) ∧ (1 < 1 → (ok && decide (T = [45])) = false)) := ⟨fun h => hb, fun h => absurd h (by omega)⟩
        clear hb hP
        go_wp2_with (first
          | (go_at_call 63; refine hC.mono ?_; rintro r u ⟨rfl, m, rfl⟩))
        go_roundw
        case rel => exact ⟨1, by go_num, by omega, hP2, _, rfl⟩
        case measure => simp [intOf]
    · have hC := HI1.out _ hBq
      by_cases hb : (ok && decide (T = [45])) = true
      · rw [hb] at hC
        have hv : signV ok 3 T = 12 := by
          simp only [Bool.and_eq_true, decide_eq_true_iff] at hb
          rw [hb.1, hb.2]
          decide
        have HV : Hid (signV ok 3 T = 12) := hv
        clear hv hb hP
        go_wp2_with (first
          | (go_at_call 63; refine hC.mono ?_; rintro r u ⟨rfl, m, rfl⟩))
        go_ret
        exact ⟨by rw [HV.out]; rfl, hB.trans ((below_drewN o6 _).mono hB.size)⟩
      · have hb := Bool.eq_false_iff.2 hb
        rw [hb] at hC
        have hP2 : Hid ((0 < 2 → (ok && decide (T = [43])) = false) ∧ (1 < 2 → (ok && decide (T = [45])) = false)) := ⟨fun h => hP.out.1 (by omega), fun h => hb⟩
        clear hb hP
        go_wp2_with (first
          | (go_at_call 63; refine hC.mono ?_; rintro r u ⟨rfl, m, rfl⟩))
        go_roundw
        case rel => exact ⟨2, by go_num, by omega, hP2, _, rfl⟩
        case measure => simp [intOf]
    · have hv : signV ok 3 T = 0 := by
        unfold signV
        rw [if_neg]
        intro hh
        simp only [Bool.and_eq_true, decide_eq_true_iff] at hh
        rcases bind_rule3 T hh.2 with e | e
        · have := hP.out.1 (by omega); rw [hh.1, e] at this; exact absurd this (by decide)
        · have := hP.out.2 (by omega); rw [hh.1, e] at this; exact absurd this (by decide)
      have HV : Hid (signV ok 3 T = 0) := hv
      clear hv hP
      go_wp2
      go_ret
      exact ⟨by rw [HV.out]; rfl, hBq⟩

theorem bind_rule4 (x : List UInt8) (h : (bindOf x).2 = 5) : x = [42] ∨ x = [47] ∨ x = [37] := by
  by_cases hx : x = [42] ∨ x = [47] ∨ x = [37]
  · exact hx
  · exfalso
    have hx' : x ≠ [42] ∧ x ≠ [47] ∧ x ≠ [37] := by
      refine ⟨fun e => hx (by simp [e]), fun e => hx (by simp [e]), fun e => hx (by simp [e])⟩
    revert h
    unfold bindOf
    have go : ∀ (c : Prop) [Decidable c] (a b : Nat × Nat), (c → a.2 ≠ 5) → b.2 ≠ 5 → (if c then a else b).2 ≠ 5 := fun c _ a b h1 h2 => by
      by_cases h : c
      · rw [if_pos h]; exact h1 h
      · rw [if_neg h]; exact h2
    refine go _ _ _ (fun c => ?_) (go _ _ _ (fun c => ?_) (go _ _ _ (fun c => ?_) (go _ _ _ (fun c => ?_) (go _ _ _ (fun c => ?_) (go _ _ _ (fun c => ?_) (go _ _ _ (fun c => ?_) (go _ _ _ (fun c => ?_) (go _ _ _ (fun c => ?_) (go _ _ _ (fun c => ?_) (go _ _ _ (fun c => ?_) (go _ _ _ (fun c => ?_) (go _ _ _ (fun c => ?_) ?_))))))))))))
    all_goals first | decide | exact absurd c (by simp [hx'])

set_option maxRecDepth 100000 in
set_option maxHeartbeats 12800000 in
theorem sign4_any {B : Nat} (g : Nat) (L : List Tk) (a : Option Addr) (c k en er pl ne bl : Nat) (w : World) (h : Qd B w g L a c k en er pl ne bl) :
    Calls Tryz.prog 144 #[.pointer (some ⟨g, 0, none⟩), .int .i64 4] w fun q w' => q = .returned (.int .u8 (signV (decide (er = 0) && decide (pl = 0)) 4 (hdT (aheadT L k en)).text : Int)) ∧ Below w.heap.size w w' := by
  have HQ : Hid (∀ u, Below w.heap.size w u → Qd B u g L a c k en er pl ne bl) := fun u hu => h.below hu
  have HI0 : Hid (∀ u, Below w.heap.size w u → Calls Tryz.prog 63 #[.pointer (some ⟨g, 0, none⟩), .string ⟨#[42]⟩] u fun q w' => q = .returned (.bool ((decide (er = 0) && decide (pl = 0)) && decide ((hdT (aheadT L k en)).text = [42]))) ∧ ∃ m, w' = u.drewN m) := fun u hu => is_any g L a c k en er pl ne bl ⟨#[42]⟩ (by decide) u (h.below hu)
  have HI1 : Hid (∀ u, Below w.heap.size w u → Calls Tryz.prog 63 #[.pointer (some ⟨g, 0, none⟩), .string ⟨#[47]⟩] u fun q w' => q = .returned (.bool ((decide (er = 0) && decide (pl = 0)) && decide ((hdT (aheadT L k en)).text = [47]))) ∧ ∃ m, w' = u.drewN m) := fun u hu => is_any g L a c k en er pl ne bl ⟨#[47]⟩ (by decide) u (h.below hu)
  have HI2 : Hid (∀ u, Below w.heap.size w u → Calls Tryz.prog 63 #[.pointer (some ⟨g, 0, none⟩), .string ⟨#[37]⟩] u fun q w' => q = .returned (.bool ((decide (er = 0) && decide (pl = 0)) && decide ((hdT (aheadT L k en)).text = [37]))) ∧ ∃ m, w' = u.drewN m) := fun u hu => is_any g L a c k en er pl ne bl ⟨#[37]⟩ (by decide) u (h.below hu)
  generalize (decide (er = 0) && decide (pl = 0)) = ok at *
  generalize (hdT (aheadT L k en)).text = T at *
  clear h
  go_enter Tryz.func144, Tryz.ntmps144
  go_wp2_with (first | ((with_reducible show wpList _ _ _ _ _ _); refine wpList_rowOf (o := { dst := some 8, .. }) rfl 23 9 1 _ rfl Tryz.underlying23 ir9 [.string ⟨#[124, 124]⟩] (by decide) (by decide) (by kernel_rfl) ?_; intro s1 hS1 hs1 hs; clear hs; refine Hid.out ?_))
  refine hidU ?_
  go_wp2_with (first | ((with_reducible show wpList _ _ _ _ _ _); refine wpList_rowOf (o := { dst := some 9, .. }) rfl 23 9 1 _ rfl Tryz.underlying23 ir9 [.string ⟨#[38, 38]⟩] (by decide) (by decide) (by kernel_rfl) ?_; intro s2 hS2 hs2 hs; clear hs; refine Hid.out ?_))
  refine hidU ?_
  go_wp2_with (first | ((with_reducible show wpList _ _ _ _ _ _); refine wpList_rowOf (o := { dst := some 10, .. }) rfl 23 9 6 _ rfl Tryz.underlying23 ir9 [.string ⟨#[61, 61]⟩, .string ⟨#[33, 61]⟩, .string ⟨#[60]⟩, .string ⟨#[60, 61]⟩, .string ⟨#[62]⟩, .string ⟨#[62, 61]⟩] (by decide) (by decide) (by kernel_rfl) ?_; intro s3 hS3 hs3 hs; clear hs; refine Hid.out ?_))
  refine hidU ?_
  go_wp2_with (first | ((with_reducible show wpList _ _ _ _ _ _); refine wpList_rowOf (o := { dst := some 11, .. }) rfl 23 9 2 _ rfl Tryz.underlying23 ir9 [.string ⟨#[43]⟩, .string ⟨#[45]⟩] (by decide) (by decide) (by kernel_rfl) ?_; intro s4 hS4 hs4 hs; clear hs; refine Hid.out ?_))
  refine hidU ?_
  go_wp2_with (first | ((with_reducible show wpList _ _ _ _ _ _); refine wpList_rowOf (o := { dst := some 12, .. }) rfl 23 9 3 _ rfl Tryz.underlying23 ir9 [.string ⟨#[42]⟩, .string ⟨#[47]⟩, .string ⟨#[37]⟩] (by decide) (by decide) (by kernel_rfl) ?_; intro s5 hS5 hs5 hs; clear hs; refine Hid.out ?_))
  refine hidU ?_
  go_wp2_with (first | ((with_reducible show wpList _ _ _ _ _ _); refine wpList_rowOf (o := { dst := some 13, .. }) rfl 185 23 5 _ rfl Tryz.underlying185 ir23 [.slice (some ⟨w.heap.size, 0, none⟩) 1 1, .slice (some ⟨s1.heap.size, 0, none⟩) 1 1, .slice (some ⟨s2.heap.size, 0, none⟩) 6 6, .slice (some ⟨s3.heap.size, 0, none⟩) 2 2, .slice (some ⟨s4.heap.size, 0, none⟩) 3 3] (by decide) (by decide) (by kernel_rfl) ?_; intro s6 hS6 hs6 hs; clear hs; refine Hid.out ?_))
  refine hidU ?_
  go_wp2_with (first | ((with_reducible show wpList _ _ _ _ _ _); refine wpList_rowOf (o := { dst := some 14, .. }) rfl 186 36 1 _ rfl Tryz.underlying186 ir36 [.int .u8 3] (by decide) (by decide) (by kernel_rfl) ?_; intro o1 hO1 ho1 hs; clear hs; refine Hid.out ?_))
  refine hidU ?_
  go_wp2_with (first | ((with_reducible show wpList _ _ _ _ _ _); refine wpList_rowOf (o := { dst := some 15, .. }) rfl 186 36 1 _ rfl Tryz.underlying186 ir36 [.int .u8 4] (by decide) (by decide) (by kernel_rfl) ?_; intro o2 hO2 ho2 hs; clear hs; refine Hid.out ?_))
  refine hidU ?_
  go_wp2_with (first | ((with_reducible show wpList _ _ _ _ _ _); refine wpList_rowOf (o := { dst := some 16, .. }) rfl 186 36 6 _ rfl Tryz.underlying186 ir36 [.int .u8 5, .int .u8 6, .int .u8 7, .int .u8 8, .int .u8 9, .int .u8 10] (by decide) (by decide) (by kernel_rfl) ?_; intro o3 hO3 ho3 hs; clear hs; refine Hid.out ?_))
  refine hidU ?_
  go_wp2_with (first | ((with_reducible show wpList _ _ _ _ _ _); refine wpList_rowOf (o := { dst := some 17, .. }) rfl 186 36 2 _ rfl Tryz.underlying186 ir36 [.int .u8 11, .int .u8 12] (by decide) (by decide) (by kernel_rfl) ?_; intro o4 hO4 ho4 hs; clear hs; refine Hid.out ?_))
  refine hidU ?_
  go_wp2_with (first | ((with_reducible show wpList _ _ _ _ _ _); refine wpList_rowOf (o := { dst := some 18, .. }) rfl 186 36 3 _ rfl Tryz.underlying186 ir36 [.int .u8 13, .int .u8 14, .int .u8 15] (by decide) (by decide) (by kernel_rfl) ?_; intro o5 hO5 ho5 hs; clear hs; refine Hid.out ?_))
  refine hidU ?_
  go_wp2_with (first | ((with_reducible show wpList _ _ _ _ _ _); refine wpList_rowOf (o := { dst := some 19, .. }) rfl 187 186 5 _ rfl Tryz.underlying187 ir186 [.slice (some ⟨s6.heap.size, 0, none⟩) 1 1, .slice (some ⟨o1.heap.size, 0, none⟩) 1 1, .slice (some ⟨o2.heap.size, 0, none⟩) 6 6, .slice (some ⟨o3.heap.size, 0, none⟩) 2 2, .slice (some ⟨o4.heap.size, 0, none⟩) 3 3] (by decide) (by decide) (by kernel_rfl) ?_; intro o6 hO6 ho6 hs; clear hs; refine Hid.out ?_))
  refine hidU ?_
  have c1 := ((((((hS6).below ho1).below ho2).below ho3).below ho4).below ho5).below ho6
  have c2 := (((((((hS5).below hs6).below ho1).below ho2).below ho3).below ho4).below ho5).below ho6
  have c3 := hO6
  have c4 := (hO5).below ho6
  have hB : Below w.heap.size w o6 := ((((((((((hs1.trans (hs2.mono hs1.size)).trans (hs3.mono (Nat.le_trans hs1.size hs2.size))).trans (hs4.mono (by have := hs1.size; have := hs2.size; have := hs3.size; omega))).trans (hs5.mono (by have := hs1.size; have := hs2.size; have := hs3.size; have := hs4.size; omega))).trans (hs6.mono (by have := hs1.size; have := hs2.size; have := hs3.size; have := hs4.size; have := hs5.size; omega))).trans (ho1.mono (by have := hs1.size; have := hs2.size; have := hs3.size; have := hs4.size; have := hs5.size; have := hs6.size; omega))).trans (ho2.mono (by have := hs1.size; have := hs2.size; have := hs3.size; have := hs4.size; have := hs5.size; have := hs6.size; have := ho1.size; omega))).trans (ho3.mono (by have := hs1.size; have := hs2.size; have := hs3.size; have := hs4.size; have := hs5.size; have := hs6.size; have := ho1.size; have := ho2.size; omega))).trans (ho4.mono (by have := hs1.size; have := hs2.size; have := hs3.size; have := hs4.size; have := hs5.size; have := hs6.size; have := ho1.size; have := ho2.size; have := ho3.size; omega))).trans (ho5.mono (by have := hs1.size; have := hs2.size; have := hs3.size; have := hs4.size; have := hs5.size; have := hs6.size; have := ho1.size; have := ho2.size; have := ho3.size; have := ho4.size; omega))).trans (ho6.mono (by have := hs1.size; have := hs2.size; have := hs3.size; have := hs4.size; have := hs5.size; have := hs6.size; have := ho1.size; have := ho2.size; have := ho3.size; have := ho4.size; have := ho5.size; omega))
  have d1 : o6.cell? ⟨s5.heap.size, 4, none⟩ = some (.slice (some ⟨s4.heap.size, 0, none⟩) 3 3) := by rw [c1.cell]; rfl
  have d3 : o6.cell? ⟨o5.heap.size, 4, none⟩ = some (.slice (some ⟨o4.heap.size, 0, none⟩) 3 3) := by rw [c3.cell]; rfl
  have e0 : o6.cell? ⟨s4.heap.size, 0, none⟩ = some (.string ⟨#[42]⟩) := by rw [c2.cell]; rfl
  have f0 : o6.cell? ⟨o4.heap.size, 0, none⟩ = some (.int .u8 13) := by rw [c4.cell]; rfl
  have e1 : o6.cell? ⟨s4.heap.size, 1, none⟩ = some (.string ⟨#[47]⟩) := by rw [c2.cell]; rfl
  have f1 : o6.cell? ⟨o4.heap.size, 1, none⟩ = some (.int .u8 14) := by rw [c4.cell]; rfl
  have e2 : o6.cell? ⟨s4.heap.size, 2, none⟩ = some (.string ⟨#[37]⟩) := by rw [c2.cell]; rfl
  have f2 : o6.cell? ⟨o4.heap.size, 2, none⟩ = some (.int .u8 15) := by rw [c4.cell]; rfl
  clear c1 c2 c3 c4 hS1 hS2 hS3 hS4 hS5 hS6 hO1 hO2 hO3 hO4 hO5 hO6 hs1 hs2 hs3 hs4 hs5 hs6 ho1 ho2 ho3 ho4 ho5 ho6 HQ
  go_wp2_with fail
  go_loopw [7] (fun j wr => ∃ i : Nat, j = .int .i64 (i : Int) ∧ i ≤ 3 ∧ Hid ((0 < i → (ok && decide (T = [42])) = false) ∧ (1 < i → (ok && decide (T = [47])) = false) ∧ (2 < i → (ok && decide (T = [37])) = false)) ∧ ∃ q, wr = o6.drewN q) (fun j _ => 3 - (intOf j).toNat)
  case atStart => exact ⟨0, rfl, by omega, ⟨fun h => absurd h (by omega), fun h => absurd h (by omega), fun h => absurd h (by omega)⟩, 0, rfl⟩
  case round =>
    obtain ⟨i, rfl, hi, hP, q, rfl⟩ := hrel
    have hBq : Below w.heap.size w (o6.drewN q) := hB.trans ((below_drewN o6 q).mono hB.size)
    rcases (show i = 0 ∨ i = 1 ∨ i = 2 ∨ i = 3 by omega) with rfl | rfl | rfl | rfl
    · have hC := HI0.out _ hBq
      by_cases hb : (ok && decide (T = [42])) = true
      · rw [hb] at hC
        have hv : signV ok 4 T = 13 := by
          simp only [Bool.and_eq_true, decide_eq_true_iff] at hb
          rw [hb.1, hb.2]
          decide
        have HV : Hid (signV ok 4 T = 13) := hv
        clear hv hb hP
        go_wp2_with (first
          | (go_at_call 63; refine hC.mono ?_; rintro r u ⟨rfl, m, rfl⟩))
        go_ret
        exact ⟨by rw [HV.out]; rfl, hB.trans ((below_drewN o6 _).mono hB.size)⟩
      · have hb := Bool.eq_false_iff.2 hb
        rw [hb] at hC
        have hP2 : Hid ((0 < 1 → (ok && decide (T = [42])) = false) ∧ (1 < 1 → (ok && decide (T = [47])) = false) ∧ (2 < 1 → (ok && decide (T = [37])) = false)) := ⟨fun h => hb, fun h => absurd h (by omega), fun h => absurd h (by omega)⟩
        clear hb hP
        go_wp2_with (first
          | (go_at_call 63; refine hC.mono ?_; rintro r u ⟨rfl, m, rfl⟩))
        go_roundw
        case rel => exact ⟨1, by go_num, by omega, hP2, _, rfl⟩
        case measure => simp [intOf]
    · have hC := HI1.out _ hBq
      by_cases hb : (ok && decide (T = [47])) = true
      · rw [hb] at hC
        have hv : signV ok 4 T = 14 := by
          simp only [Bool.and_eq_true, decide_eq_true_iff] at hb
          rw [hb.1, hb.2]
          decide
        have HV : Hid (signV ok 4 T = 14) := hv
        clear hv hb hP
        go_wp2_with (first
          | (go_at_call 63; refine hC.mono ?_; rintro r u ⟨rfl, m, rfl⟩))
        go_ret
        exact ⟨by rw [HV.out]; rfl, hB.trans ((below_drewN o6 _).mono hB.size)⟩
      · have hb := Bool.eq_false_iff.2 hb
        rw [hb] at hC
        have hP2 : Hid ((0 < 2 → (ok && decide (T = [42])) = false) ∧ (1 < 2 → (ok && decide (T = [47])) = false) ∧ (2 < 2 → (ok && decide (T = [37])) = false)) := ⟨fun h => hP.out.1 (by omega), fun h => hb, fun h => absurd h (by omega)⟩
        clear hb hP
        go_wp2_with (first
          | (go_at_call 63; refine hC.mono ?_; rintro r u ⟨rfl, m, rfl⟩))
        go_roundw
        case rel => exact ⟨2, by go_num, by omega, hP2, _, rfl⟩
        case measure => simp [intOf]
    · have hC := HI2.out _ hBq
      by_cases hb : (ok && decide (T = [37])) = true
      · rw [hb] at hC
        have hv : signV ok 4 T = 15 := by
          simp only [Bool.and_eq_true, decide_eq_true_iff] at hb
          rw [hb.1, hb.2]
          decide
        have HV : Hid (signV ok 4 T = 15) := hv
        clear hv hb hP
        go_wp2_with (first
          | (go_at_call 63; refine hC.mono ?_; rintro r u ⟨rfl, m, rfl⟩))
        go_ret
        exact ⟨by rw [HV.out]; rfl, hB.trans ((below_drewN o6 _).mono hB.size)⟩
      · have hb := Bool.eq_false_iff.2 hb
        rw [hb] at hC
        have hP2 : Hid ((0 < 3 → (ok && decide (T = [42])) = false) ∧ (1 < 3 → (ok && decide (T = [47])) = false) ∧ (2 < 3 → (ok && decide (T = [37])) = false)) := ⟨fun h => hP.out.1 (by omega), fun h => hP.out.2.1 (by omega), fun h => hb⟩
        clear hb hP
        go_wp2_with (first
          | (go_at_call 63; refine hC.mono ?_; rintro r u ⟨rfl, m, rfl⟩))
        go_roundw
        case rel => exact ⟨3, by go_num, by omega, hP2, _, rfl⟩
        case measure => simp [intOf]
    · have hv : signV ok 4 T = 0 := by
        unfold signV
        rw [if_neg]
        intro hh
        simp only [Bool.and_eq_true, decide_eq_true_iff] at hh
        rcases bind_rule4 T hh.2 with e | e | e
        · have := hP.out.1 (by omega); rw [hh.1, e] at this; exact absurd this (by decide)
        · have := hP.out.2.1 (by omega); rw [hh.1, e] at this; exact absurd this (by decide)
        · have := hP.out.2.2 (by omega); rw [hh.1, e] at this; exact absurd this (by decide)
      have HV : Hid (signV ok 4 T = 0) := hv
      clear hv hP
      go_wp2
      go_ret
      exact ⟨by rw [HV.out]; rfl, hBq⟩

theorem refSignOf_any {B : Nat} (g n : Nat) (hn : n ≤ 4) (L : List Tk) (a : Option Addr) (c k en er pl ne bl : Nat) (w : World) (h : Qd B w g L a c k en er pl ne bl) :
    Calls Tryz.prog 144 #[.pointer (some ⟨g, 0, none⟩), .int .i64 (n : Int)] w fun q w' => q = .returned (.int .u8 (signV (decide (er = 0) && decide (pl = 0)) n (hdT (aheadT L k en)).text : Int)) ∧ Below w.heap.size w w' := by
  rcases (show n = 0 ∨ n = 1 ∨ n = 2 ∨ n = 3 ∨ n = 4 by omega) with rfl | rfl | rfl | rfl | rfl
  · exact sign0_any g L a c k en er pl ne bl w h
  · exact sign1_any g L a c k en er pl ne bl w h
  · exact sign2_any g L a c k en er pl ne bl w h
  · exact sign3_any g L a c k en er pl ne bl w h
  · exact sign4_any g L a c k en er pl ne bl w h

end Go.Proofs.YtjgggmjjikopeaaGreatDoor
