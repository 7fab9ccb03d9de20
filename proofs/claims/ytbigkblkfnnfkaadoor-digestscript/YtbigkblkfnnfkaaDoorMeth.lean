/- digest.New, and a made hash's Write, Sum, Len and Clone. -/
import Derived.Test.YtbigkblkfnnfkaaDoorTokens
namespace Go.Proofs.YtbigkblkfnnfkaaDoor
open Go.RowKit
set_option linter.unusedVariables false

theorem hash_one (hs : List Nat) (blk : List UInt8) (n : Nat) : ∀ v ∈ hashOf hs blk n, v.oneCell' = true := by
  intro v hv
  unfold hashOf at hv
  rcases List.mem_append.1 hv with h | h
  · rcases List.mem_append.1 h with h | h
    · exact u32_one _ v h
    · exact b8_one _ v h
  · simp at h
    rcases h with rfl | rfl <;> rfl

theorem i58' (hs : List Nat) (blk : List UInt8) (n : Nat) (h8 : hs.length = 8) (h64 : blk.length = 64) : (Tryd.prog.info? 58).map (·.size) = some (hashOf hs blk n).length := by rw [hashOf_length hs blk n h8 h64]; exact i58

set_option maxRecDepth 100000 in
theorem isMade_yes (g : Nat) (m : List UInt8) (w : World) (h : HashIs w g m) :
    Calls Tryd.prog 42 #[.pointer (some ⟨g, 0, none⟩)] w fun e w' => e = .returned (.bool true) ∧ w' = w := by
  have hc := h.cell73
  go_enter Tryd.func42, Tryd.ntmps42
  go_wp2
  go_ret
  exact ⟨rfl, rfl⟩

set_option maxRecDepth 100000 in
theorem new_any (w : World) : Calls Tryd.prog 23 #[] w fun e w' => ∃ g, e = .returned (.pointer (some ⟨g, 0, none⟩)) ∧ w.heap.size ≤ g ∧ HashIs w' g [] ∧ Below w.heap.size w w' := by
  have hi : (Tryd.prog.info? 58).map (·.size) = some (hashOf init8 (List.replicate 64 0) 0).length := i58
  have ho : hash0.length = (hashOf init8 (List.replicate 64 0) 0).length := rfl
  have h1 : Hid (∀ v ∈ hashOf init8 (List.replicate 64 0) 0, v.oneCell' = true) := hash_one _ _ _
  go_enter Tryd.func23, Tryd.ntmps23
  go_wp2_with (first | (go_at_call 31; refine (start_any _).mono ?_; rintro e w2 ⟨rfl, hb2⟩) | ((with_reducible show wpList _ _ _ _ _ _); refine wpList_alloc_at rfl 58 rfl _ 74 z58 ?_; intro w3 hA3 hb3 hs3) | ((with_reducible show wpList _ _ _ _ _ _); refine wpList_store_at (P := Tryd.prog) rfl 58 (.tmp 1) (.tmp 2) rfl w2.heap.size (hashOf init8 (List.replicate 64 0) 0) rfl rfl 58 _ hA3 hi ho h1.out ?_; intro w4 hA4 hb4 hs4))
  go_ret
  have e2 := hb2.size
  exact ⟨w2.heap.size, rfl, by omega, hash_new hA4, hb4.below (hb2.trans (hb3.mono (by omega))) (by omega) (by omega)⟩

set_option maxRecDepth 100000 in
theorem write_yes (g : Nat) (a : Option Addr) (cap : Nat) (m bs : List UInt8) (w : World) (hH : HashIs w g m) (hrow : Row w a bs) (hbg : ∀ b off, a = some ⟨b, off, none⟩ → b ≠ g) (hcap : bs.length ≤ cap) (hmax : m.length + bs.length ≤ 1099511627776) (hR : Roots w) (hg0 : 0 < g) :
    Calls Tryd.prog 24 #[.pointer (some ⟨g, 0, none⟩), .slice a bs.length cap] w fun e w' => e = .returned (.int .i64 0) ∧ HashIs w' g (m ++ bs) ∧ But g w w' := by
  go_enter Tryd.func24, Tryd.ntmps24
  go_wp2_with (first | (go_at_call 42; refine (isMade_yes g m _ hH).mono ?_; rintro e w9 ⟨rfl, hw9⟩; have hw9' := hw9.symm; subst hw9') | (go_at_call 32; refine (put_any g a cap m bs _ hH hrow hbg hcap hmax hR hg0).mono ?_; rintro e w2 ⟨rfl, hH2, hb2⟩))
  go_ret
  exact ⟨rfl, hH2, hb2⟩

set_option maxRecDepth 100000 in
theorem len_yes (g : Nat) (m : List UInt8) (w : World) (hH : HashIs w g m) :
    Calls Tryd.prog 29 #[.pointer (some ⟨g, 0, none⟩)] w fun e w' => e = .returned (.int .i64 (m.length : Int)) ∧ w' = w := by
  have hc := hH.cell72
  go_enter Tryd.func29, Tryd.ntmps29
  go_wp2_with (go_at_call 42; refine (isMade_yes g m _ hH).mono ?_; rintro e w9 ⟨rfl, hw9⟩; have hw9' := hw9.symm; subst hw9')
  go_ret
  exact ⟨rfl, rfl⟩

set_option maxRecDepth 100000 in
theorem clone_yes (g : Nat) (m : List UInt8) (w : World) (hH : HashIs w g m) :
    Calls Tryd.prog 28 #[.pointer (some ⟨g, 0, none⟩)] w fun e w' => e = .returned (.pointer (some ⟨w.heap.size, 0, none⟩)) ∧ HashIs w' w.heap.size m ∧ Below w.heap.size w w' := by
  obtain ⟨blk, h64, hA, hblk⟩ := hH
  have hH : HashIs w g m := ⟨blk, h64, hA, hblk⟩
  obtain ⟨cs, hcs⟩ : ∃ cs, Hid (cs = hashOf (Hn m (m.length / 64)) blk m.length) := ⟨_, rfl⟩
  rw [← hcs.out] at hA
  have hi : (Tryd.prog.info? 58).map (·.size) = some cs.length := by rw [hcs.out]; exact i58' _ _ _ (Hn_length _ _) h64
  have ho : hash0.length = cs.length := by rw [hcs.out, hashOf_length _ _ _ (Hn_length _ _) h64]; rfl
  have h1 : Hid (∀ v ∈ cs, v.oneCell' = true) := by rw [hcs.out]; exact hash_one _ _ _
  go_enter Tryd.func28, Tryd.ntmps28
  go_wp2_with (first | (go_at_call 42; refine (isMade_yes g m _ hH).mono ?_; rintro e w9 ⟨rfl, hw9⟩; have hw9' := hw9.symm; subst hw9') | ((with_reducible show wpList _ _ _ _ _ _); refine wpList_load_at (P := Tryd.prog) rfl 58 (.tmp 8) rfl g rfl 58 cs hA _ Tryd.underlying58 rfl hi ?_) | ((with_reducible show wpList _ _ _ _ _ _); refine wpList_alloc_at rfl 58 rfl _ 74 z58 ?_; intro w3 hA3 hb3 hs3) | ((with_reducible show wpList _ _ _ _ _ _); refine wpList_store_at (P := Tryd.prog) rfl 58 (.tmp 3) (.tmp 9) rfl w.heap.size cs rfl rfl 58 _ hA3 hi ho h1.out ?_; intro w4 hA4 hb4 hs4))
  go_ret
  exact ⟨rfl, ⟨blk, h64, by rw [← hcs.out]; exact hA4, hblk⟩, hb4.below hb3 (Nat.le_refl _) (by omega)⟩

set_option maxRecDepth 100000 in
set_option maxHeartbeats 400000 in
theorem hsum_hid (g : Nat) (m ds : List UInt8) (hds : Hid (ds = sha m)) (w : World) (hH : HashIs w g m) (hmax : m.length ≤ 1099511627) (hR : Roots w) :
    Calls Tryd.prog 27 #[.pointer (some ⟨g, 0, none⟩)] w fun e w' => e = .returned (.agg (ds.map B8).toArray) ∧ Below w.heap.size w w' := by
  obtain ⟨blk, h64, hA, hblk⟩ := hH
  have hH : HashIs w g m := ⟨blk, h64, hA, hblk⟩
  obtain ⟨cs, hcs⟩ : ∃ cs, Hid (cs = hashOf (Hn m (m.length / 64)) blk m.length) := ⟨_, rfl⟩
  rw [← hcs.out] at hA
  have hi : (Tryd.prog.info? 58).map (·.size) = some cs.length := by rw [hcs.out]; exact i58' _ _ _ (Hn_length _ _) h64
  have ho : hash0.length = cs.length := by rw [hcs.out, hashOf_length _ _ _ (Hn_length _ _) h64]; rfl
  have h1 : Hid (∀ v ∈ cs, v.oneCell' = true) := by rw [hcs.out]; exact hash_one _ _ _
  have hdl : ds.length = 32 := by rw [hds.out]; exact sha_length m
  have hid := i25' ds hdl
  have hod : (List.replicate 32 (Value.int .u8 0)).length = (ds.map B8).length := by rw [List.length_map, hdl]; simp
  have hpos := hR.pos
  have hend : ∀ (q : Nat) (u : World), HashIs u q m → Roots u → 0 < q → Calls Tryd.prog 33 #[.pointer (some ⟨q, 0, none⟩)] u fun e w' => e = .returned (.agg (ds.map B8).toArray) ∧ But q u w' := by
    intro q u h1 h2 h3
    rw [hds.out]
    exact end_any q m u h1 hmax h2 h3
  have hend' : Hid _ := hend
  have hfin : Hid (∀ (u : World) (q : Nat), At 58 u q cs → HashIs u q m) := fun u q h => ⟨blk, h64, by rw [← hcs.out]; exact h, hblk⟩
  clear hend hblk
  go_enter Tryd.func27, Tryd.ntmps27
  go_wp2_with (first | ((with_reducible show wpList _ _ _ _ _ _); refine wpList_alloc_at rfl 25 rfl _ 32 z25 ?_; intro w1 hA1 hb1 hs1) | (go_at_call 42; refine (isMade_yes g m _ (hH.below hb1)).mono ?_; rintro e w9 ⟨rfl, hw9⟩; have hw9' := hw9.symm; subst hw9') | ((with_reducible show wpList _ _ _ _ _ _); refine wpList_load_at (P := Tryd.prog) rfl 58 (.tmp 9) rfl g rfl 58 cs (hA.below hb1) _ Tryd.underlying58 rfl hi ?_) | ((with_reducible show wpList _ _ _ _ _ _); refine wpList_alloc_at rfl 58 rfl _ 74 z58 ?_; intro w3 hA3 hb3 hs3) | ((with_reducible show wpList _ _ _ _ _ _); refine wpList_store_at (P := Tryd.prog) rfl 58 (.tmp 3) (.tmp 10) rfl w1.heap.size cs rfl rfl 58 _ hA3 hi ho h1.out ?_; intro w4 hA4 hb4 hs4) | (go_at_call 33; have hH4 : HashIs w4 w1.heap.size m := hfin.out w4 _ hA4; rw [hs1] at hH4; refine (hend'.out (w.heap.size + 1) w4 hH4 (((hR.below hb1).below hb3).but hb4 (by omega)) (by omega)).mono ?_; rintro e w5 ⟨rfl, hb5⟩) | ((with_reducible show wpList _ _ _ _ _ _); refine wpList_store_at (P := Tryd.prog) rfl 25 (.tmp 2) (.tmp 11) rfl w.heap.size (ds.map B8) rfl rfl 25 _ (hb5.at (hb4.at (hA1.below hb3) (by omega)) (by omega)) hid hod (b8_one _) ?_; intro w6 hA6 hb6 hs6))
  refine bodyPost_ret (results_at rfl _ _ w.heap.size 25 (ds.map B8) _ rfl hA6 Tryd.underlying25 rfl hid) rfl ?_
  have e5 := hb5.size
  exact ⟨rfl, hb6.below (hb5.below (hb4.below (hb1.trans (hb3.mono (by omega))) (by omega) (by omega)) (by omega) (by omega)) (Nat.le_refl _) (by omega)⟩
end Go.Proofs.YtbigkblkfnnfkaaDoor
