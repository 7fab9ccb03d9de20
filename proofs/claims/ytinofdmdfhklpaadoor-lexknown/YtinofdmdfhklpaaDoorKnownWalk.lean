/- The law of the chapter's examples: walked. -/
import Derived.Test.YtinofdmdfhklpaaDoorKnown2
namespace Go.Proofs.YtinofdmdfhklpaaDoor
open Go.RowKit
set_option linter.unusedVariables false

theorem t_k1 (w : World) (cells : Array Value) (fr : Nat × Nat) (c2 : Nat) (hc : cells = ([⟨1, [120, 49], 0, 0⟩, ⟨4, [61], 2, 0⟩, ⟨3, [50, 46, 53], 3, 4612811918334230528⟩, ⟨4, [59], 6, 0⟩].map fun (t : Tk) => Value.string ⟨t.text.toArray⟩).toArray) (hfr : fr = (0, 0)) (hE : ErrR (w.alloc (.cells cells 9 fr))) :
    Calls Tryd.prog 10 #[.string { data := #[120, 49, 61, 50, 46, 53, 59] }, .slice (some ⟨w.heap.size, 0, none⟩) 4 c2] (w.alloc (.cells cells 9 fr)) fun e w' => e = .returned (.bool true) ∧ Below (w.alloc (.cells cells 9 fr)).heap.size (w.alloc (.cells cells 9 fr)) w' := by
  subst hc hfr
  exact texts_yes { data := #[120, 49, 61, 50, 46, 53, 59] } w.heap.size c2 [⟨1, [120, 49], 0, 0⟩, ⟨4, [61], 2, 0⟩, ⟨3, [50, 46, 53], 3, 4612811918334230528⟩, ⟨4, [59], 6, 0⟩] _ k1 (by decide) hE (by decide) (by decide) (_root_.Go.heap_alloc_new w _) 4 rfl

theorem t_k2 (w : World) (cells : Array Value) (fr : Nat × Nat) (c2 : Nat) (hc : cells = ([⟨1, [97], 0, 0⟩, ⟨4, [60, 61], 1, 0⟩, ⟨1, [98], 3, 0⟩, ⟨4, [38, 38], 4, 0⟩, ⟨4, [33], 6, 0⟩, ⟨1, [99], 7, 0⟩].map fun (t : Tk) => Value.string ⟨t.text.toArray⟩).toArray) (hfr : fr = (0, 0)) (hE : ErrR (w.alloc (.cells cells 9 fr))) :
    Calls Tryd.prog 10 #[.string { data := #[97, 60, 61, 98, 38, 38, 33, 99] }, .slice (some ⟨w.heap.size, 0, none⟩) 6 c2] (w.alloc (.cells cells 9 fr)) fun e w' => e = .returned (.bool true) ∧ Below (w.alloc (.cells cells 9 fr)).heap.size (w.alloc (.cells cells 9 fr)) w' := by
  subst hc hfr
  exact texts_yes { data := #[97, 60, 61, 98, 38, 38, 33, 99] } w.heap.size c2 [⟨1, [97], 0, 0⟩, ⟨4, [60, 61], 1, 0⟩, ⟨1, [98], 3, 0⟩, ⟨4, [38, 38], 4, 0⟩, ⟨4, [33], 6, 0⟩, ⟨1, [99], 7, 0⟩] _ k2 (by decide) hE (by decide) (by decide) (_root_.Go.heap_alloc_new w _) 6 rfl

theorem t_k3 (w : World) (cells : Array Value) (fr : Nat × Nat) (c2 : Nat) (hc : cells = ([⟨2, [48], 0, 0⟩].map fun (t : Tk) => Value.string ⟨t.text.toArray⟩).toArray) (hfr : fr = (0, 0)) (hE : ErrR (w.alloc (.cells cells 9 fr))) :
    Calls Tryd.prog 10 #[.string { data := #[48, 32, 35, 32, 97, 108, 108, 32, 57] }, .slice (some ⟨w.heap.size, 0, none⟩) 1 c2] (w.alloc (.cells cells 9 fr)) fun e w' => e = .returned (.bool true) ∧ Below (w.alloc (.cells cells 9 fr)).heap.size (w.alloc (.cells cells 9 fr)) w' := by
  subst hc hfr
  exact texts_yes { data := #[48, 32, 35, 32, 97, 108, 108, 32, 57] } w.heap.size c2 [⟨2, [48], 0, 0⟩] _ k3 (by decide) hE (by decide) (by decide) (_root_.Go.heap_alloc_new w _) 1 rfl

theorem t_f1 (w : World) (hE : ErrR w) : Calls Tryd.prog 11 #[.string { data := #[49, 97] }, .int .i64 4, .int .i64 1] w fun e w' => e = .returned (.bool true) ∧ Below w.heap.size w w' :=
  fault_yes { data := #[49, 97] } 4 1 w f1 (by decide) hE

theorem t_f2 (w : World) (hE : ErrR w) : Calls Tryd.prog 11 #[.string { data := #[48, 49] }, .int .i64 4, .int .i64 0] w fun e w' => e = .returned (.bool true) ∧ Below w.heap.size w w' :=
  fault_yes { data := #[48, 49] } 4 0 w f2 (by decide) hE

theorem t_f3 (w : World) (hE : ErrR w) : Calls Tryd.prog 11 #[.string { data := #[57, 50, 50, 51, 51, 55, 50, 48, 51, 54, 56, 53, 52, 55, 55, 53, 56, 48, 56] }, .int .i64 4, .int .i64 0] w fun e w' => e = .returned (.bool true) ∧ Below w.heap.size w w' :=
  fault_yes { data := #[57, 50, 50, 51, 51, 55, 50, 48, 51, 54, 56, 53, 52, 55, 55, 53, 56, 48, 56] } 4 0 w f3 (by decide) hE

theorem t_f4 (w : World) (hE : ErrR w) : Calls Tryd.prog 11 #[.string { data := #[49, 46, 32] }, .int .i64 4, .int .i64 1] w fun e w' => e = .returned (.bool true) ∧ Below w.heap.size w w' :=
  fault_yes { data := #[49, 46, 32] } 4 1 w f4 (by decide) hE

theorem t_f5 (w : World) (hE : ErrR w) : Calls Tryd.prog 11 #[.string { data := #[97, 32, 38, 32, 98] }, .int .i64 4, .int .i64 2] w fun e w' => e = .returned (.bool true) ∧ Below w.heap.size w w' :=
  fault_yes { data := #[97, 32, 38, 32, 98] } 4 2 w f5 (by decide) hE

theorem t_f6 (w : World) (hE : ErrR w) : Calls Tryd.prog 11 #[.string { data := #[36] }, .int .i64 4, .int .i64 0] w fun e w' => e = .returned (.bool true) ∧ Below w.heap.size w w' :=
  fault_yes { data := #[36] } 4 0 w f6 (by decide) hE

theorem t_f7 (w : World) (hE : ErrR w) : Calls Tryd.prog 11 #[.string { data := #[97, 98, 99, 100, 101, 102, 103, 104, 105, 106, 107, 108, 109, 110, 111, 112, 113, 114, 115, 116, 117, 118, 119, 120, 121] }, .int .i64 5, .int .i64 0] w fun e w' => e = .returned (.bool true) ∧ Below w.heap.size w w' :=
  fault_yes { data := #[97, 98, 99, 100, 101, 102, 103, 104, 105, 106, 107, 108, 109, 110, 111, 112, 113, 114, 115, 116, 117, 118, 119, 120, 121] } 5 0 w f7 (by decide) hE

theorem l_k1 (w : World) (hE : ErrR w) : Calls Tryd.prog 6 #[.string { data := #[120, 49, 61, 50, 46, 53, 59] }] w fun e w' => ∃ v, e = .returned (.tuple #[v, .agg (fa2 0 0).toArray]) ∧ Toks w.heap.size w' v [⟨1, [120, 49], 0, 0⟩, ⟨4, [61], 2, 0⟩, ⟨3, [50, 46, 53], 3, 4612811918334230528⟩, ⟨4, [59], 6, 0⟩] ∧ Below w.heap.size w w' := by
  have hL := lex_any { data := #[120, 49, 61, 50, 46, 53, 59] } w (by decide) hE
  unfold LexPost at hL
  rw [show lexS (bytes { data := #[120, 49, 61, 50, 46, 53, 59] }) = ⟨[⟨1, [120, 49], 0, 0⟩, ⟨4, [61], 2, 0⟩, ⟨3, [50, 46, 53], 3, 4612811918334230528⟩, ⟨4, [59], 6, 0⟩], 0, 0⟩ from k1] at hL
  exact hL

set_option maxRecDepth 100000 in
set_option maxHeartbeats 1600000 in
theorem known_any (w : World) (hE : ErrR w) : Calls Tryd.prog 4 #[] w fun e w' => e = .returned (.bool true) ∧ Below w.heap.size w w' := by
  go_enter Tryd.func4, Tryd.ntmps4
  go_wp2_with fail
  refine (l_k1 _ hE).mono ?_
  rintro e w1 ⟨v1, rfl, hT1, hb1⟩
  obtain ⟨g, cap, rfl, hg1, hg2, hca, hcb, hr, _⟩ := hT1.open.resolve_left (by simp)
  go_wp2_with (first | ((with_reducible show wpList _ _ _ _ _ _); refine wpList_alloc_at rfl 25 rfl (fa2 0 0) 2 z25 ?_; intro w2 hA2 hb2 hs2) | ((with_reducible show wpList _ _ _ _ _ _); refine wpList_store_at (P := Tryd.prog) rfl 25 (.tmp 2) (.tmp 7) rfl w1.heap.size (fa2 0 0) rfl rfl 25 (fa2 0 0) hA2 i25 rfl (one2f _ _) ?_; intro w3 hA3 hb3 hs3; refine Hid.out ?_))
  refine Lib.hid ?_
  have hb13 : Below w1.heap.size w1 w3 := hb3.below hb2 (Nat.le_refl _) (by omega)
  have hB3 : Below w.heap.size w w3 := hb1.trans (hb13.mono hb1.size)
  have q00 : w3.cell? ⟨g, 0, none⟩ = some (.int .i64 1) := by
    rw [hb13.cell (show (⟨g, 0, none⟩ : Addr).block < w1.heap.size from hg2)]
    exact hr 0 _ rfl 0 _ rfl
  have q10 : w3.cell? ⟨g, 5, none⟩ = some (.int .i64 4) := by
    rw [hb13.cell (show (⟨g, 5, none⟩ : Addr).block < w1.heap.size from hg2)]
    exact hr 1 _ rfl 0 _ rfl
  have q20 : w3.cell? ⟨g, 10, none⟩ = some (.int .i64 3) := by
    rw [hb13.cell (show (⟨g, 10, none⟩ : Addr).block < w1.heap.size from hg2)]
    exact hr 2 _ rfl 0 _ rfl
  have q22 : w3.cell? ⟨g, 12, none⟩ = some (.int .i64 3) := by
    rw [hb13.cell (show (⟨g, 12, none⟩ : Addr).block < w1.heap.size from hg2)]
    exact hr 2 _ rfl 2 _ rfl
  have q23 : w3.cell? ⟨g, 13, none⟩ = some (.int .u8 3) := by
    rw [hb13.cell (show (⟨g, 13, none⟩ : Addr).block < w1.heap.size from hg2)]
    exact hr 2 _ rfl 3 _ rfl
  have q24 : w3.cell? ⟨g, 14, none⟩ = some (.int .u64 4612811918334230528) := by
    rw [hb13.cell (show (⟨g, 14, none⟩ : Addr).block < w1.heap.size from hg2)]
    exact hr 2 _ rfl 4 _ rfl
  clear hA2 hb2 hb3 hb13 hA3 hr hT1 hb1 hs2 hs3
  go_wp2_with fail
  have hBa4 : Below w.heap.size w (w3.alloc (.cells ([⟨1, [120, 49], 0, 0⟩, ⟨4, [61], 2, 0⟩, ⟨3, [50, 46, 53], 3, 4612811918334230528⟩, ⟨4, [59], 6, 0⟩].map fun (t : Tk) => Value.string ⟨t.text.toArray⟩).toArray 9 (0, 0))) := hB3.alloc hB3.size _
  refine (t_k1 w3 _ _ _ rfl rfl (hE.below hBa4)).mono ?_
  rintro e w4 ⟨rfl, hb4⟩
  have hB4 := hBa4.trans (hb4.mono hBa4.size)
  clear hb4 hBa4
  go_wp2_with fail
  have hBa5 : Below w.heap.size w (w4.alloc (.cells ([⟨1, [97], 0, 0⟩, ⟨4, [60, 61], 1, 0⟩, ⟨1, [98], 3, 0⟩, ⟨4, [38, 38], 4, 0⟩, ⟨4, [33], 6, 0⟩, ⟨1, [99], 7, 0⟩].map fun (t : Tk) => Value.string ⟨t.text.toArray⟩).toArray 9 (0, 0))) := hB4.alloc hB4.size _
  refine (t_k2 w4 _ _ _ rfl rfl (hE.below hBa5)).mono ?_
  rintro e w5 ⟨rfl, hb5⟩
  have hB5 := hBa5.trans (hb5.mono hBa5.size)
  clear hb5 hBa5
  go_wp2_with fail
  have hBa6 : Below w.heap.size w (w5.alloc (.cells ([⟨2, [48], 0, 0⟩].map fun (t : Tk) => Value.string ⟨t.text.toArray⟩).toArray 9 (0, 0))) := hB5.alloc hB5.size _
  refine (t_k3 w5 _ _ _ rfl rfl (hE.below hBa6)).mono ?_
  rintro e w6 ⟨rfl, hb6⟩
  have hB6 := hBa6.trans (hb6.mono hBa6.size)
  clear hb6 hBa6
  go_wp2_with fail
  refine (t_f1 _ (hE.below hB6)).mono ?_
  rintro e w7 ⟨rfl, hb7⟩
  have hB7 := hB6.trans (hb7.mono hB6.size)
  clear hb7
  go_wp2_with fail
  refine (t_f2 _ (hE.below hB7)).mono ?_
  rintro e w8 ⟨rfl, hb8⟩
  have hB8 := hB7.trans (hb8.mono hB7.size)
  clear hb8
  go_wp2_with fail
  refine (t_f3 _ (hE.below hB8)).mono ?_
  rintro e w9 ⟨rfl, hb9⟩
  have hB9 := hB8.trans (hb9.mono hB8.size)
  clear hb9
  go_wp2_with fail
  refine (t_f4 _ (hE.below hB9)).mono ?_
  rintro e w10 ⟨rfl, hb10⟩
  have hB10 := hB9.trans (hb10.mono hB9.size)
  clear hb10
  go_wp2_with fail
  refine (t_f5 _ (hE.below hB10)).mono ?_
  rintro e w11 ⟨rfl, hb11⟩
  have hB11 := hB10.trans (hb11.mono hB10.size)
  clear hb11
  go_wp2_with fail
  refine (t_f6 _ (hE.below hB11)).mono ?_
  rintro e w12 ⟨rfl, hb12⟩
  have hB12 := hB11.trans (hb12.mono hB11.size)
  clear hb12
  go_wp2_with fail
  refine (t_f7 _ (hE.below hB12)).mono ?_
  rintro e w13 ⟨rfl, hb13⟩
  have hB13 := hB12.trans (hb13.mono hB12.size)
  clear hb13
  go_wp2
  go_ret
  exact ⟨rfl, hB13⟩

end Go.Proofs.YtinofdmdfhklpaaDoor
