/- The chapter's example, and the law's awake. -/
import Derived.Test.YtjedkfohmedmaaaClG
namespace Go.Proofs.Ytjedkfohmedmaaa
open Go.RowKit
set_option linter.unusedVariables false
attribute [local go_sem ↓] Go.wp_at_zero Go.wp_at_succ

theorem rowEv_new (w : World) (es : List Ev) : RowEv (w.alloc (.cells (flatE es).toArray 25)) (some ⟨w.heap.size, 0, none⟩) es := by
  refine .inr ⟨w.heap.size, 0, rfl, fun i e he j v hj => ?_⟩
  unfold World.cell?
  rw [heap_new]
  rw [Nat.zero_add]
  have := flatE_at es i e he j v hj
  simpa using this

set_option maxRecDepth 100000 in
theorem example_ok (w : World) : Calls Try.prog 22 #[] w fun r w' => r = .returned (.slice (some ⟨w.heap.size, 0, none⟩) 5 5) ∧ RowEv w' (some ⟨w.heap.size, 0, none⟩) exEs ∧ Below w.heap.size w w' := by
  go_enter Try.func22, Try.ntmps22
  go_wp2
  go_ret
  exact ⟨rfl, rowEv_new w exEs, (Below.refl _ w).alloc (Nat.le_refl _) _⟩

/-- The world in which the example's clocks were written down. -/
def exW (w : World) : World := (((((w.alloc (.cells #[.int .i64 1, .int .i64 0] 3)).alloc (.cells #[.int .i64 1, .int .i64 1] 3)).alloc (.cells #[.int .i64 1, .int .i64 2] 3)).alloc (.cells #[.int .i64 2, .int .i64 0] 3)).alloc (.cells #[.int .i64 2, .int .i64 3] 3)).alloc (.cells #[.slice (some ⟨w.heap.size, 0, none⟩) 2 2, .slice (some ⟨w.heap.size + 1, 0, none⟩) 2 2, .slice (some ⟨w.heap.size + 1 + 1, 0, none⟩) 2 2, .slice (some ⟨w.heap.size + 1 + 1 + 1, 0, none⟩) 2 2, .slice (some ⟨w.heap.size + 1 + 1 + 1 + 1, 0, none⟩) 2 2] 26)
theorem exC_new (w : World) : RowII (exW w) (some ⟨w.heap.size + 1 + 1 + 1 + 1 + 1, 0, none⟩) exC ∧ Below w.heap.size w (exW w) := by
  unfold exW
  obtain ⟨u0, hu0⟩ : ∃ u, u = w.alloc (.cells #[.int .i64 1, .int .i64 0] 3) := ⟨_, rfl⟩
  rw [← hu0]
  have b0 : Below w.heap.size w u0 := by rw [hu0]; exact (Below.refl _ _).alloc (Nat.le_refl _) _
  have a0 : BlkI u0 w.heap.size ([1, 0].map I64) := by rw [hu0]; exact heap_new _ _
  have s0 : u0.heap.size = w.heap.size + 1 := by rw [hu0]; simp
  obtain ⟨u1, hu1⟩ : ∃ u, u = u0.alloc (.cells #[.int .i64 1, .int .i64 1] 3) := ⟨_, rfl⟩
  rw [← hu1]
  have b1 : Below u0.heap.size u0 u1 := by rw [hu1]; exact (Below.refl _ _).alloc (Nat.le_refl _) _
  have a1 : BlkI u1 u0.heap.size ([1, 1].map I64) := by rw [hu1]; exact heap_new _ _
  have s1 : u1.heap.size = u0.heap.size + 1 := by rw [hu1]; simp
  obtain ⟨u2, hu2⟩ : ∃ u, u = u1.alloc (.cells #[.int .i64 1, .int .i64 2] 3) := ⟨_, rfl⟩
  rw [← hu2]
  have b2 : Below u1.heap.size u1 u2 := by rw [hu2]; exact (Below.refl _ _).alloc (Nat.le_refl _) _
  have a2 : BlkI u2 u1.heap.size ([1, 2].map I64) := by rw [hu2]; exact heap_new _ _
  have s2 : u2.heap.size = u1.heap.size + 1 := by rw [hu2]; simp
  obtain ⟨u3, hu3⟩ : ∃ u, u = u2.alloc (.cells #[.int .i64 2, .int .i64 0] 3) := ⟨_, rfl⟩
  rw [← hu3]
  have b3 : Below u2.heap.size u2 u3 := by rw [hu3]; exact (Below.refl _ _).alloc (Nat.le_refl _) _
  have a3 : BlkI u3 u2.heap.size ([2, 0].map I64) := by rw [hu3]; exact heap_new _ _
  have s3 : u3.heap.size = u2.heap.size + 1 := by rw [hu3]; simp
  obtain ⟨u4, hu4⟩ : ∃ u, u = u3.alloc (.cells #[.int .i64 2, .int .i64 3] 3) := ⟨_, rfl⟩
  rw [← hu4]
  have b4 : Below u3.heap.size u3 u4 := by rw [hu4]; exact (Below.refl _ _).alloc (Nat.le_refl _) _
  have a4 : BlkI u4 u3.heap.size ([2, 3].map I64) := by rw [hu4]; exact heap_new _ _
  have s4 : u4.heap.size = u3.heap.size + 1 := by rw [hu4]; simp
  obtain ⟨u5, hu5⟩ : ∃ u, u = u4.alloc (.cells #[.slice (some ⟨w.heap.size, 0, none⟩) 2 2, .slice (some ⟨w.heap.size + 1, 0, none⟩) 2 2, .slice (some ⟨w.heap.size + 1 + 1, 0, none⟩) 2 2, .slice (some ⟨w.heap.size + 1 + 1 + 1, 0, none⟩) 2 2, .slice (some ⟨w.heap.size + 1 + 1 + 1 + 1, 0, none⟩) 2 2] 26) := ⟨_, rfl⟩
  rw [← hu5]
  have b5 : Below u4.heap.size u4 u5 := by rw [hu5]; exact (Below.refl _ _).alloc (Nat.le_refl _) _
  have a5 : At 26 u5 u4.heap.size [.slice (some ⟨w.heap.size, 0, none⟩) 2 2, .slice (some ⟨w.heap.size + 1, 0, none⟩) 2 2, .slice (some ⟨w.heap.size + 1 + 1, 0, none⟩) 2 2, .slice (some ⟨w.heap.size + 1 + 1 + 1, 0, none⟩) 2 2, .slice (some ⟨w.heap.size + 1 + 1 + 1 + 1, 0, none⟩) 2 2] := by rw [hu5]; exact heap_new _ _
  clear hu0 hu1 hu2 hu3 hu4 hu5
  have r0 := (((((a0.below b1).below b2).below b3).below b4).below b5)
  have r1 := ((((a1.below b2).below b3).below b4).below b5)
  have r2 := (((a2.below b3).below b4).below b5)
  have r3 := ((a3.below b4).below b5)
  have r4 := (a4.below b5)
  have e1 : u0.heap.size = w.heap.size + 1 := s0
  have e2 : u1.heap.size = w.heap.size + 1 + 1 := by rw [s1, e1]
  have e3 : u2.heap.size = w.heap.size + 1 + 1 + 1 := by rw [s2, e2]
  have e4 : u3.heap.size = w.heap.size + 1 + 1 + 1 + 1 := by rw [s3, e3]
  have e5 : u4.heap.size = w.heap.size + 1 + 1 + 1 + 1 + 1 := by rw [s4, e4]
  rw [e1] at r1
  rw [e2] at r2
  rw [e3] at r3
  rw [e4] at r4
  rw [e5] at a5
  refine ⟨.inr ⟨_, 0, rfl, fun i zs hz => ?_⟩, ?_⟩
  · have hi : i < 5 := (List.getElem?_eq_some_iff.1 hz).1
    rw [Nat.zero_add, a5.cell]
    have h5 : i = 0 ∨ i = 1 ∨ i = 2 ∨ i = 3 ∨ i = 4 := by omega
    rcases h5 with rfl | rfl | rfl | rfl | rfl <;> cases hz
    · exact ⟨_, 2, rfl, r0.row_all, Nat.le_refl _, by decide⟩
    · exact ⟨_, 2, rfl, r1.row_all, Nat.le_refl _, by decide⟩
    · exact ⟨_, 2, rfl, r2.row_all, Nat.le_refl _, by decide⟩
    · exact ⟨_, 2, rfl, r3.row_all, Nat.le_refl _, by decide⟩
    · exact ⟨_, 2, rfl, r4.row_all, Nat.le_refl _, by decide⟩
  · exact (((((b0.trans (b1.mono (by omega))).trans (b2.mono (by omega))).trans (b3.mono (by omega))).trans (b4.mono (by omega))).trans (b5.mono (by omega)))

set_option maxRecDepth 100000 in
set_option maxHeartbeats 1600000 in
theorem awake_ok (w : World) : Calls Try.prog 21 #[] w fun r w' => r = .returned (.bool true) ∧ Below w.heap.size w w' := by
  have HX := example_ok w
  go_enter Try.func21, Try.ntmps21
  go_wp2_with (first | (go_at_call 22; refine HX.mono ?_; rintro _ w1 ⟨rfl, hE1, hb1⟩) | (go_at_call 8; refine (clocks_ok (some ⟨w.heap.size, 0, none⟩) 5 2 exEs w1 hE1 ex_ok (by decide) ex_wrong2).mono ?_; rintro _ w2 ⟨G, M, rfl, hC2, hb2⟩; refine Hid.out ?_))
  refine hidU ?_
  have hR2 : Hid (RowII w2 (some ⟨G, 0, none⟩) exC) := by
    have := hC2.row (by omega)
    rwa [show exEs.length = 5 from rfl, ex_clocks] at this
  have hB2 : Hid (Below w.heap.size w w2) := hb1.trans (hb2.mono hb1.size)
  clear hC2 hb1 hb2 hE1 HX
  go_wp2_with fail
  obtain ⟨hR3, hb3⟩ := exC_new w2
  refine (sameLists_any exC exC (some ⟨G, 0, none⟩) (some ⟨w2.heap.size + 1 + 1 + 1 + 1 + 1, 0, none⟩) 5 5 (exW w2) (hR2.out.below hb3) hR3 (by decide) (by decide) (by decide) (by decide)).mono ?_
  rintro _ w4 ⟨rfl, hb4⟩
  have hB4 : Hid (Below w.heap.size w w4) := (hB2.out.trans (hb3.mono hB2.out.size)).trans (hb4.mono (Nat.le_trans hB2.out.size hb3.size))
  clear hb3 hb4 hR3 hR2 hB2
  go_wp2_with fail
  go_ret
  exact ⟨rfl, hB4.out⟩
end Go.Proofs.Ytjedkfohmedmaaa
