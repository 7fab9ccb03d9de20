/- Which events depend on one another: the bits of kinds, what an event touches. -/
import Derived.Test.YtjedkfohmedmaaaCells
namespace Go.Proofs.Ytjedkfohmedmaaa
open Go.RowKit
set_option linter.unusedVariables false

theorem hidU {p : Prop} (h : p) : Hid p := h

/-- A kind's bit. -/
def bitN (k : Int) : Nat := if 0 ≤ k ∧ k < 8 then 2 ^ k.toNat else 0
theorem bit_eq (k : Int) (h : 0 ≤ k) : (2 : Int) ^ min k.toNat 8 % 256 = (bitN k : Int) := by
  unfold bitN
  by_cases h8 : k < 8
  · rw [if_pos ⟨h, h8⟩]
    obtain ⟨n, rfl⟩ : ∃ n : Nat, k = (n : Int) := ⟨k.toNat, by omega⟩
    have hn : n = 0 ∨ n = 1 ∨ n = 2 ∨ n = 3 ∨ n = 4 ∨ n = 5 ∨ n = 6 ∨ n = 7 := by omega
    rcases hn with rfl | rfl | rfl | rfl | rfl | rfl | rfl | rfl <;> decide
  · rw [if_neg (by omega), show min k.toNat 8 = 8 by omega]
    decide
theorem bit_cases (k : Int) : (bitN k = 2 ∧ k = 1) ∨ (bitN k = 4 ∧ k = 2) ∨ (bitN k = 8 ∧ k = 3) ∨ (bitN k = 16 ∧ k = 4) ∨ ((bitN k = 0 ∨ bitN k = 1 ∨ bitN k = 32 ∨ bitN k = 64 ∨ bitN k = 128) ∧ k ≠ 1 ∧ k ≠ 2 ∧ k ≠ 3 ∧ k ≠ 4) := by
  unfold bitN
  by_cases h : 0 ≤ k ∧ k < 8
  · rw [if_pos h]
    obtain ⟨n, rfl⟩ : ∃ n : Nat, k = (n : Int) := ⟨k.toNat, by omega⟩
    have hn : n = 0 ∨ n = 1 ∨ n = 2 ∨ n = 3 ∨ n = 4 ∨ n = 5 ∨ n = 6 ∨ n = 7 := by omega
    rcases hn with rfl | rfl | rfl | rfl | rfl | rfl | rfl | rfl <;> decide
  · rw [if_neg h]
    exact .inr (.inr (.inr (.inr ⟨.inl rfl, by omega, by omega, by omega, by omega⟩)))

set_option maxRecDepth 100000 in
theorem bitOf_any (k : Int) (h1 : -9223372036854775808 ≤ k) (h2 : k ≤ 9223372036854775807) (w : World) : Calls Try.prog 42 #[.int .i64 k] w fun r w' => r = .returned (.int .u8 (bitN k : Int)) ∧ w' = w := by
  by_cases h : k < 0
  · have e : bitN k = 0 := by unfold bitN; rw [if_neg (by omega)]
    rw [e]
    go_enter Try.func42, Try.ntmps42
    go_wp2
    go_ret
    exact ⟨rfl, rfl⟩
  · have e := bit_eq k (by omega)
    rw [← e]
    clear e
    go_enter Try.func42, Try.ntmps42
    go_wp2
    go_ret
    exact ⟨rfl, rfl⟩

/-- An event. -/
structure Ev where
  th : Int
  kd : Int
  ob : Int
def Ev.cells (e : Ev) : List Value := [.int .i64 e.th, .int .i64 e.kd, .int .i64 e.ob]
def i64 (z : Int) : Prop := -9223372036854775808 ≤ z ∧ z ≤ 9223372036854775807
def Ev.ok (e : Ev) : Prop := i64 e.th ∧ i64 e.kd ∧ i64 e.ob
/-- What an event touches. -/
def tchd (e : Ev) : Nat × Int := if e.kd = 1 ∨ e.kd = 2 then (6, e.ob) else if e.kd = 3 ∨ e.kd = 4 then (24, e.ob) else (0, 0)
theorem z76 : (Try.prog.info? 69).map (fun i => (i.zero, i.size)) = some (some (.agg [.int .u8 0, .int .i64 0].toArray), 2) := by kernel_rfl
theorem i76 : (Try.prog.info? 69).map (·.size) = some 2 := by kernel_rfl

theorem idx0 (u : World) : (Instr.index 77 (.agg #[.int .u8 6, .int .u8 24]) (.int .i64 0)).run Try.prog u = .ok (.int .u8 6) u := by kernel_rfl
theorem idx1 (u : World) : (Instr.index 77 (.agg #[.int .u8 6, .int .u8 24]) (.int .i64 1)).run Try.prog u = .ok (.int .u8 24) u := by kernel_rfl
theorem one76 (a b : Int) : ∀ v ∈ [Value.int .u8 a, .int .i64 b], v.oneCell' = true := by intro v hv; simp at hv; rcases hv with rfl | rfl <;> rfl

set_option maxRecDepth 100000 in
set_option maxHeartbeats 1600000 in
theorem touched_any (e : Ev) (he : e.ok) (w : World) : Calls Try.prog 41 #[.agg e.cells.toArray] w fun r w' => r = .returned (.agg [.int .u8 ((tchd e).1 : Int), .int .i64 (tchd e).2].toArray) ∧ Below w.heap.size w w' := by
  obtain ⟨th, kd, ob⟩ := e
  have hB := fun u => bitOf_any kd he.2.1.1 he.2.1.2 u
  have hc := bit_cases kd
  obtain ⟨T, hT⟩ : ∃ T, Hid (T = tchd ⟨th, kd, ob⟩) := ⟨_, (rfl : _ = tchd _)⟩
  rw [← hT.out]
  simp only [Ev.cells]
  clear he
  rcases hc with ⟨hb, hk⟩ | ⟨hb, hk⟩ | ⟨hb, hk⟩ | ⟨hb, hk⟩ | ⟨hb, hk⟩
  · rw [hb] at hB
    have hT : T = (6, ob) := by rw [hT.out]; unfold tchd; exact if_pos (.inl hk)
    subst hT
    clear hb hk
    go_enter Try.func41, Try.ntmps41
    go_wp2_with (first
      | ((with_reducible show wpList _ _ _ _ _ _); refine wpList_box_at rfl 25 (.tmp 0) rfl [.int .i64 th, .int .i64 kd, .int .i64 ob] rfl ?_; intro w1 hA1 hb1 hs1; clear hs1)
      | ((with_reducible show wpList _ _ _ _ _ _); refine wpList_alloc_at rfl 69 rfl [.int .u8 0, .int .i64 0] 2 z76 ?_; intro w2 hA2 hb2 hs2; clear hs2; refine Hid.out ?_))
    refine hidU ?_
    have hB2 := hb1.trans (hb2.mono hb1.size)
    have hA12 := hA1.below hb2
    have l1 := hb1.size
    have l2 := hA2.lt
    have lw := hA1.lt
    have c1 : w2.cell? ⟨w.heap.size, 1, none⟩ = some (.int .i64 kd) := by rw [hA12.cell]; rfl
    have c2 : w2.cell? ⟨w.heap.size, 2, none⟩ = some (.int .i64 ob) := by rw [hA12.cell]; rfl
    clear hA1 hb1 hb2 hA12
    have x0 := idx0
    have x1 := idx1
    go_wp2_with (go_at_call 42; refine (hB _).mono ?_; rintro _ u ⟨rfl, hu⟩; have hu := hu.symm; subst hu)
    go_loopw [10] (fun j wr => ∃ i : Nat, j = .int .i64 (i : Int) ∧ i ≤ 0 ∧ wr = w2) (fun j _ => 2 - (intOf j).toNat)
    case atStart => exact ⟨0, rfl, by omega, rfl⟩
    case round =>
      obtain ⟨i, rfl, hi, hwr⟩ := hrel
      have hwr := hwr.symm
      subst hwr
      have hi : i = 0 := by omega
      rcases hi with rfl
      · go_wp2_with (first
          | ((with_reducible show wpList _ _ _ _ _ _); refine wpList_build_at (P := Try.prog) rfl 69 #[(0, .tmp 17), (1, .tmp 19)] rfl [.int .u8 6, .int .i64 ob] (by kernel_rfl) ?_)
          | ((with_reducible show wpList _ _ _ _ _ _); refine wpList_store_at (P := Try.prog) rfl 69 (.tmp 2) (.tmp 20) rfl w1.heap.size [.int .u8 6, .int .i64 ob] rfl rfl 69 _ hA2 i76 rfl (one76 _ _) ?_; intro w3 hA3 hb3 hs3; clear hs3))
        refine bodyPost_ret (results_at rfl _ _ w1.heap.size 69 [.int .u8 6, .int .i64 ob] _ rfl hA3 Try.underlying69 rfl i76) rfl ?_
        exact ⟨rfl, hb3.below hB2 (by omega) (by omega)⟩
  · rw [hb] at hB
    have hT : T = (6, ob) := by rw [hT.out]; unfold tchd; exact if_pos (.inr hk)
    subst hT
    clear hb hk
    go_enter Try.func41, Try.ntmps41
    go_wp2_with (first
      | ((with_reducible show wpList _ _ _ _ _ _); refine wpList_box_at rfl 25 (.tmp 0) rfl [.int .i64 th, .int .i64 kd, .int .i64 ob] rfl ?_; intro w1 hA1 hb1 hs1; clear hs1)
      | ((with_reducible show wpList _ _ _ _ _ _); refine wpList_alloc_at rfl 69 rfl [.int .u8 0, .int .i64 0] 2 z76 ?_; intro w2 hA2 hb2 hs2; clear hs2; refine Hid.out ?_))
    refine hidU ?_
    have hB2 := hb1.trans (hb2.mono hb1.size)
    have hA12 := hA1.below hb2
    have l1 := hb1.size
    have l2 := hA2.lt
    have lw := hA1.lt
    have c1 : w2.cell? ⟨w.heap.size, 1, none⟩ = some (.int .i64 kd) := by rw [hA12.cell]; rfl
    have c2 : w2.cell? ⟨w.heap.size, 2, none⟩ = some (.int .i64 ob) := by rw [hA12.cell]; rfl
    clear hA1 hb1 hb2 hA12
    have x0 := idx0
    have x1 := idx1
    go_wp2_with (go_at_call 42; refine (hB _).mono ?_; rintro _ u ⟨rfl, hu⟩; have hu := hu.symm; subst hu)
    go_loopw [10] (fun j wr => ∃ i : Nat, j = .int .i64 (i : Int) ∧ i ≤ 0 ∧ wr = w2) (fun j _ => 2 - (intOf j).toNat)
    case atStart => exact ⟨0, rfl, by omega, rfl⟩
    case round =>
      obtain ⟨i, rfl, hi, hwr⟩ := hrel
      have hwr := hwr.symm
      subst hwr
      have hi : i = 0 := by omega
      rcases hi with rfl
      · go_wp2_with (first
          | ((with_reducible show wpList _ _ _ _ _ _); refine wpList_build_at (P := Try.prog) rfl 69 #[(0, .tmp 17), (1, .tmp 19)] rfl [.int .u8 6, .int .i64 ob] (by kernel_rfl) ?_)
          | ((with_reducible show wpList _ _ _ _ _ _); refine wpList_store_at (P := Try.prog) rfl 69 (.tmp 2) (.tmp 20) rfl w1.heap.size [.int .u8 6, .int .i64 ob] rfl rfl 69 _ hA2 i76 rfl (one76 _ _) ?_; intro w3 hA3 hb3 hs3; clear hs3))
        refine bodyPost_ret (results_at rfl _ _ w1.heap.size 69 [.int .u8 6, .int .i64 ob] _ rfl hA3 Try.underlying69 rfl i76) rfl ?_
        exact ⟨rfl, hb3.below hB2 (by omega) (by omega)⟩
  · rw [hb] at hB
    have hT : T = (24, ob) := by rw [hT.out]; unfold tchd; dsimp only; rw [if_neg (by omega)]; exact if_pos (.inl hk)
    subst hT
    clear hb hk
    go_enter Try.func41, Try.ntmps41
    go_wp2_with (first
      | ((with_reducible show wpList _ _ _ _ _ _); refine wpList_box_at rfl 25 (.tmp 0) rfl [.int .i64 th, .int .i64 kd, .int .i64 ob] rfl ?_; intro w1 hA1 hb1 hs1; clear hs1)
      | ((with_reducible show wpList _ _ _ _ _ _); refine wpList_alloc_at rfl 69 rfl [.int .u8 0, .int .i64 0] 2 z76 ?_; intro w2 hA2 hb2 hs2; clear hs2; refine Hid.out ?_))
    refine hidU ?_
    have hB2 := hb1.trans (hb2.mono hb1.size)
    have hA12 := hA1.below hb2
    have l1 := hb1.size
    have l2 := hA2.lt
    have lw := hA1.lt
    have c1 : w2.cell? ⟨w.heap.size, 1, none⟩ = some (.int .i64 kd) := by rw [hA12.cell]; rfl
    have c2 : w2.cell? ⟨w.heap.size, 2, none⟩ = some (.int .i64 ob) := by rw [hA12.cell]; rfl
    clear hA1 hb1 hb2 hA12
    have x0 := idx0
    have x1 := idx1
    go_wp2_with (go_at_call 42; refine (hB _).mono ?_; rintro _ u ⟨rfl, hu⟩; have hu := hu.symm; subst hu)
    go_loopw [10] (fun j wr => ∃ i : Nat, j = .int .i64 (i : Int) ∧ i ≤ 1 ∧ wr = w2) (fun j _ => 2 - (intOf j).toNat)
    case atStart => exact ⟨0, rfl, by omega, rfl⟩
    case round =>
      obtain ⟨i, rfl, hi, hwr⟩ := hrel
      have hwr := hwr.symm
      subst hwr
      have hi : i = 0 ∨ i = 1 := by omega
      rcases hi with rfl | rfl
      · go_wp2_with fail
        go_roundw
        case rel => exact ⟨1, by go_num, by omega, trivial⟩
        case measure => simp [intOf]
      · go_wp2_with (first
          | ((with_reducible show wpList _ _ _ _ _ _); refine wpList_build_at (P := Try.prog) rfl 69 #[(0, .tmp 17), (1, .tmp 19)] rfl [.int .u8 24, .int .i64 ob] (by kernel_rfl) ?_)
          | ((with_reducible show wpList _ _ _ _ _ _); refine wpList_store_at (P := Try.prog) rfl 69 (.tmp 2) (.tmp 20) rfl w1.heap.size [.int .u8 24, .int .i64 ob] rfl rfl 69 _ hA2 i76 rfl (one76 _ _) ?_; intro w3 hA3 hb3 hs3; clear hs3))
        refine bodyPost_ret (results_at rfl _ _ w1.heap.size 69 [.int .u8 24, .int .i64 ob] _ rfl hA3 Try.underlying69 rfl i76) rfl ?_
        exact ⟨rfl, hb3.below hB2 (by omega) (by omega)⟩
  · rw [hb] at hB
    have hT : T = (24, ob) := by rw [hT.out]; unfold tchd; dsimp only; rw [if_neg (by omega)]; exact if_pos (.inr hk)
    subst hT
    clear hb hk
    go_enter Try.func41, Try.ntmps41
    go_wp2_with (first
      | ((with_reducible show wpList _ _ _ _ _ _); refine wpList_box_at rfl 25 (.tmp 0) rfl [.int .i64 th, .int .i64 kd, .int .i64 ob] rfl ?_; intro w1 hA1 hb1 hs1; clear hs1)
      | ((with_reducible show wpList _ _ _ _ _ _); refine wpList_alloc_at rfl 69 rfl [.int .u8 0, .int .i64 0] 2 z76 ?_; intro w2 hA2 hb2 hs2; clear hs2; refine Hid.out ?_))
    refine hidU ?_
    have hB2 := hb1.trans (hb2.mono hb1.size)
    have hA12 := hA1.below hb2
    have l1 := hb1.size
    have l2 := hA2.lt
    have lw := hA1.lt
    have c1 : w2.cell? ⟨w.heap.size, 1, none⟩ = some (.int .i64 kd) := by rw [hA12.cell]; rfl
    have c2 : w2.cell? ⟨w.heap.size, 2, none⟩ = some (.int .i64 ob) := by rw [hA12.cell]; rfl
    clear hA1 hb1 hb2 hA12
    have x0 := idx0
    have x1 := idx1
    go_wp2_with (go_at_call 42; refine (hB _).mono ?_; rintro _ u ⟨rfl, hu⟩; have hu := hu.symm; subst hu)
    go_loopw [10] (fun j wr => ∃ i : Nat, j = .int .i64 (i : Int) ∧ i ≤ 1 ∧ wr = w2) (fun j _ => 2 - (intOf j).toNat)
    case atStart => exact ⟨0, rfl, by omega, rfl⟩
    case round =>
      obtain ⟨i, rfl, hi, hwr⟩ := hrel
      have hwr := hwr.symm
      subst hwr
      have hi : i = 0 ∨ i = 1 := by omega
      rcases hi with rfl | rfl
      · go_wp2_with fail
        go_roundw
        case rel => exact ⟨1, by go_num, by omega, trivial⟩
        case measure => simp [intOf]
      · go_wp2_with (first
          | ((with_reducible show wpList _ _ _ _ _ _); refine wpList_build_at (P := Try.prog) rfl 69 #[(0, .tmp 17), (1, .tmp 19)] rfl [.int .u8 24, .int .i64 ob] (by kernel_rfl) ?_)
          | ((with_reducible show wpList _ _ _ _ _ _); refine wpList_store_at (P := Try.prog) rfl 69 (.tmp 2) (.tmp 20) rfl w1.heap.size [.int .u8 24, .int .i64 ob] rfl rfl 69 _ hA2 i76 rfl (one76 _ _) ?_; intro w3 hA3 hb3 hs3; clear hs3))
        refine bodyPost_ret (results_at rfl _ _ w1.heap.size 69 [.int .u8 24, .int .i64 ob] _ rfl hA3 Try.underlying69 rfl i76) rfl ?_
        exact ⟨rfl, hb3.below hB2 (by omega) (by omega)⟩
  · have hT : T = (0, 0) := by rw [hT.out]; unfold tchd; dsimp only; rw [if_neg (by omega), if_neg (by omega)]
    rcases hb with hb | hb | hb | hb | hb
    all_goals
      rw [hb] at hB
      subst hT
      clear hb hk
      go_enter Try.func41, Try.ntmps41
      go_wp2_with (first
        | ((with_reducible show wpList _ _ _ _ _ _); refine wpList_box_at rfl 25 (.tmp 0) rfl [.int .i64 th, .int .i64 kd, .int .i64 ob] rfl ?_; intro w1 hA1 hb1 hs1; clear hs1)
        | ((with_reducible show wpList _ _ _ _ _ _); refine wpList_alloc_at rfl 69 rfl [.int .u8 0, .int .i64 0] 2 z76 ?_; intro w2 hA2 hb2 hs2; clear hs2; refine Hid.out ?_))
      refine hidU ?_
      have hB2 := hb1.trans (hb2.mono hb1.size)
      have hA12 := hA1.below hb2
      have l1 := hb1.size
      have l2 := hA2.lt
      have lw := hA1.lt
      have c1 : w2.cell? ⟨w.heap.size, 1, none⟩ = some (.int .i64 kd) := by rw [hA12.cell]; rfl
      have c2 : w2.cell? ⟨w.heap.size, 2, none⟩ = some (.int .i64 ob) := by rw [hA12.cell]; rfl
      clear hA1 hb1 hb2 hA12
      have x0 := idx0
      have x1 := idx1
      go_wp2_with (go_at_call 42; refine (hB _).mono ?_; rintro _ u ⟨rfl, hu⟩; have hu := hu.symm; subst hu)
      go_loopw [10] (fun j wr => ∃ i : Nat, j = .int .i64 (i : Int) ∧ i ≤ 2 ∧ wr = w2) (fun j _ => 2 - (intOf j).toNat)
      case atStart => exact ⟨0, rfl, by omega, rfl⟩
      case round =>
        obtain ⟨i, rfl, hi, hwr⟩ := hrel
        have hwr := hwr.symm
        subst hwr
        have hi : i = 0 ∨ i = 1 ∨ i = 2 := by omega
        rcases hi with rfl | rfl | rfl
        · go_wp2_with fail
          go_roundw
          case rel => exact ⟨1, by go_num, by omega, trivial⟩
          case measure => simp [intOf]
        · go_wp2_with fail
          go_roundw
          case rel => exact ⟨2, by go_num, by omega, trivial⟩
          case measure => simp [intOf]
        · go_wp2_with (first
            | ((with_reducible show wpList _ _ _ _ _ _); refine wpList_build_at (P := Try.prog) rfl 69 #[] rfl [.int .u8 0, .int .i64 0] (by kernel_rfl) ?_)
            | ((with_reducible show wpList _ _ _ _ _ _); refine wpList_store_at (P := Try.prog) rfl 69 (.tmp 2) (.tmp 22) rfl w1.heap.size [.int .u8 0, .int .i64 0] rfl rfl 69 _ hA2 i76 rfl (one76 _ _) ?_; intro w3 hA3 hb3 hs3; clear hs3))
          refine bodyPost_ret (results_at rfl _ _ w1.heap.size 69 [.int .u8 0, .int .i64 0] _ rfl hA3 Try.underlying69 rfl i76) rfl ?_
          exact ⟨rfl, hb3.below hB2 (by omega) (by omega)⟩
end Go.Proofs.Ytjedkfohmedmaaa
