/- Joined texts of the proof. -/
import Derived.Test.YtjgggmjjikopeaaGreatDoorJ21

/- An expression of its operands. -/
namespace Go.Proofs.YtjgggmjjikopeaaGreatDoor
open Go.RowKit
set_option linter.unusedVariables false

/-- An expression that lies apart from a block. -/
def Tr (g : Nat) (w : World) (y : ET) : Prop := y.In w.heap.size w ∧ y.Lies (fun k => k ≠ g)
theorem Tr.but {g : Nat} {w w' : World} {y : ET} (h : Tr g w y) (hb : But g w w') : Tr g w' y :=
  ⟨ET.In.up hb.size (ET.In.stay (fun k hk hl => hb.block k hl hk) h.1 h.2), h.2⟩
theorem Tr.below {g : Nat} {w w' : World} {y : ET} (h : Tr g w y) (hb : Below w.heap.size w w') : Tr g w' y := h.but (But.of_below hb)
theorem ex_cells5 {w : World} {g : Nat} {s1 s2 s3 s4 s5 : Value} (h : At 43 w g [s1, s2, s3, s4, s5]) : w.cell? ⟨g, 0, none⟩ = some s1 ∧ w.cell? ⟨g, 1, none⟩ = some s2 ∧ w.cell? ⟨g, 2, none⟩ = some s3 ∧ w.cell? ⟨g, 3, none⟩ = some s4 ∧ w.cell? ⟨g, 4, none⟩ = some s5 := by
  refine ⟨?_, ?_, ?_, ?_, ?_⟩ <;> (rw [h.cell]; rfl)
set_option maxRecDepth 100000 in
set_option maxHeartbeats 3200000 in
theorem node_any (p op : Nat) (a : Option Addr) (c : Nat) (ks : List ET) (w : World) (hin : (ET.mk op 0 0 ⟨#[]⟩ a c ks).In w.heap.size w) (hh : htX (ET.mk op 0 0 ⟨#[]⟩ a c ks).ex ≤ 1048576) :
    Calls Tryz.prog 109 #[.int .i64 (p : Int), .int .u8 (op : Int), .slice a ks.length c] w fun r w' => (if 32 < htX (ET.mk op 0 0 ⟨#[]⟩ a c ks).ex then r = PanW 160 p else r = .returned (.agg (ET.mk op 0 0 ⟨#[]⟩ a c ks).cells.toArray)) ∧ Below w.heap.size w w' := by
  have hH : ∀ u, Below w.heap.size w u → Calls Tryz.prog 142 #[.agg (ET.mk op 0 0 ⟨#[]⟩ a c ks).cells.toArray] u fun r w' => r = .returned (.int .i64 (htX (ET.mk op 0 0 ⟨#[]⟩ a c ks).ex : Int)) ∧ Below u.heap.size u w' := fun u hu =>
    height20_any w.heap.size _ _ (Nat.lt_succ_self _) hh u (hin.old (Old.of_below hu (Nat.le_refl _))) hu.size
  have HH : Hid (∀ u, Below w.heap.size w u → Calls Tryz.prog 142 #[.agg #[.int .u8 (op : Int), .int .u8 0, .int .u64 0, .string ⟨#[]⟩, .slice a ks.length c]] u fun r w' => r = .returned (.int .i64 (htX (ET.mk op 0 0 ⟨#[]⟩ a c ks).ex : Int)) ∧ Below u.heap.size u w') := hH
  have h1 := (ET.mk op 0 0 ⟨#[]⟩ a c ks).one
  show Calls Tryz.prog 109 #[.int .i64 (p : Int), .int .u8 (op : Int), .slice a ks.length c] w fun r w' => (if 32 < htX (ET.mk op 0 0 ⟨#[]⟩ a c ks).ex then r = PanW 160 p else r = .returned (.agg [.int .u8 (op : Int), .int .u8 0, .int .u64 0, .string ⟨#[]⟩, .slice a ks.length c].toArray)) ∧ Below w.heap.size w w'
  have h1 : ∀ v ∈ [Value.int .u8 (op : Int), .int .u8 0, .int .u64 0, .string ⟨#[]⟩, .slice a ks.length c], v.oneCell' = true := h1
  clear hH hin
  generalize ks.length = n at *
  generalize htX (ET.mk op 0 0 ⟨#[]⟩ a c ks).ex = h at *
  by_cases hc : 32 < h
  focus
    simp only [if_pos hc]
  rotate_left
  focus
    simp only [if_neg hc]
  rotate_left
  all_goals
    go_enter Tryz.func109, Tryz.ntmps109
    go_wp2_with (first
      | ((with_reducible show wpList _ _ _ _ _ _); refine wpList_alloc_at (o := { dst := some 6, .. }) rfl 43 rfl [.int .u8 0, .int .u8 0, .int .u64 0, .string ⟨#[]⟩, .slice none 0 0] 5 z29 ?_; intro w1 hA1 hb1 hs1; clear hs1)
      | ((with_reducible show wpList _ _ _ _ _ _); refine wpList_build_at rfl 43 _ rfl [.int .u8 (op : Int), .int .u8 0, .int .u64 0, .string ⟨#[]⟩, .slice a n c] (by kernel_rfl) ?_)
      | ((with_reducible show wpList _ _ _ _ _ _); refine wpList_alloc_at (o := { dst := some 7, .. }) rfl 43 rfl [.int .u8 0, .int .u8 0, .int .u64 0, .string ⟨#[]⟩, .slice none 0 0] 5 z29 ?_; intro w2 hA2 hb2 hs2; clear hs2)
      | ((with_reducible show wpList _ _ _ _ _ _); refine wpList_store_at (P := Tryz.prog) rfl 43 (.tmp 7) (.tmp 10) rfl w1.heap.size [.int .u8 (op : Int), .int .u8 0, .int .u64 0, .string ⟨#[]⟩, .slice a n c] rfl rfl 43 _ hA2 i29 rfl h1 ?_; intro w3 hA3 hb3 hs3; refine Hid.out ?_))
    refine hidU ?_
    have l1 := hA1.lt
    have hA13 := hb3.at (hA1.below hb2) (by omega)
    have hB3 : Below w.heap.size w w3 := hb3.below (hb1.trans (hb2.mono hb1.size)) hb1.size (Nat.le_trans hb1.size hb2.size)
    obtain ⟨c0, c1, c2, c3, c4⟩ := ex_cells5 hA3
    have hC := HH.out w3 hB3
    clear hA1 hA2 hb1 hb2 hb3 hs3 HH
  · go_wp2_with (first
      | (go_at_call 142; refine hC.mono ?_; rintro r w4 ⟨rfl, hb4⟩)
      | (go_at_call 54; refine (refuse_any 160 p _).mono ?_; rintro r w5 ⟨hr, rfl⟩; unfold PanW at hr; subst hr))
    exact ⟨rfl, rfl, hB3.trans (hb4.mono hB3.size)⟩
  · go_wp2_with (first
      | (go_at_call 142; refine hC.mono ?_; rintro r w4 ⟨rfl, hb4⟩; refine Hid.out ?_))
    refine hidU ?_
    have hA14 := hA13.below hb4
    obtain ⟨c0, c1, c2, c3, c4⟩ := ex_cells5 (hA3.below hb4)
    go_wp2_with (first
      | ((with_reducible show wpList _ _ _ _ _ _); refine wpList_store_at (P := Tryz.prog) rfl 43 (.tmp 6) (.tmp 16) rfl w.heap.size [.int .u8 (op : Int), .int .u8 0, .int .u64 0, .string ⟨#[]⟩, .slice a n c] rfl rfl 43 _ hA14 i29 rfl h1 ?_; intro w9 hA9 hb9 hs9))
    refine bodyPost_ret (results_at rfl _ _ w.heap.size 43 [.int .u8 (op : Int), .int .u8 0, .int .u64 0, .string ⟨#[]⟩, .slice a n c] _ rfl hA9 Tryz.underlying43 rfl i29) rfl ?_
    have hB4 := hB3.trans (hb4.mono hB3.size)
    exact ⟨rfl, hb9.below hB4 (Nat.le_refl _) hB4.size⟩
end Go.Proofs.YtjgggmjjikopeaaGreatDoor
