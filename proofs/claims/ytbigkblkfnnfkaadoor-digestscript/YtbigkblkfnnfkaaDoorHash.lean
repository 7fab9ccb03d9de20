/- The digest of a message as plain functions of lists. -/
import Derived.Test.YtbigkblkfnnfkaaDoorBlock
import Derived.Test.YtbigkblkfnnfkaaDoorApp
namespace Go.Proofs.YtbigkblkfnnfkaaDoor
open Go.RowKit
set_option linter.unusedVariables false

/-- h0 to h7. -/
def init8 : List Nat := [1779033703, 3144134277, 1013904242, 2773480762, 1359893119, 2600822924, 528734635, 1541459225]

def toSt (l : List Nat) : St := ⟨l.getD 0 0, l.getD 1 0, l.getD 2 0, l.getD 3 0, l.getD 4 0, l.getD 5 0, l.getD 6 0, l.getD 7 0⟩
theorem toSt_list (l : List Nat) (h : l.length = 8) : (toSt l).list = l := by
  match l, h with
  | [a, b, c, d, e, f, g, i], _ => rfl

/-- The eight words behind a block. -/
def comp (hs : List Nat) (bs : List UInt8) : List Nat := addTo hs (rnds roots (extW (loadW bs 64) 48) (toSt hs) 64).list 8
theorem comp_length (hs : List Nat) (bs : List UInt8) : (comp hs bs).length = hs.length := addTo_length _ _ _

/-- The eight words behind the first n blocks. -/
def Hn (m : List UInt8) : Nat → List Nat
  | 0 => init8
  | n + 1 => comp (Hn m n) ((m.drop (64 * n)).take 64)
theorem Hn_length (m : List UInt8) (n : Nat) : (Hn m n).length = 8 := by
  induction n with
  | zero => rfl
  | succ n ih => rw [Hn, comp_length, ih]
theorem Hn_append (m x : List UInt8) (n : Nat) (h : 64 * n ≤ m.length) : Hn (m ++ x) n = Hn m n := by
  induction n with
  | zero => rfl
  | succ n ih =>
    rw [Hn, Hn, ih (by omega)]
    congr 1
    rw [List.drop_append_of_le_length (by omega), List.take_append_of_le_length (by simp; omega)]

/-- How many noughts stand behind the 128. -/
def zeros (n : Nat) : Nat := (119 - n % 64) % 64
theorem zeros_lt (n : Nat) : zeros n < 64 := by unfold zeros; omega
theorem zeros_end (n : Nat) : (n + 1 + zeros n) % 64 = 56 := by unfold zeros; omega
theorem zeros_not (n j : Nat) (h : j < zeros n) : (n + 1 + j) % 64 ≠ 56 := by unfold zeros at h; omega

/-- What stands behind a message of n bytes. -/
def tail (n : Nat) : List UInt8 := [128] ++ List.replicate (zeros n) 0 ++ eight (8 * n) 8
theorem tail_length (n : Nat) : (tail n).length = 1 + zeros n + 8 := by simp [tail, eight_length]; omega
def pad (m : List UInt8) : List UInt8 := m ++ tail m.length
theorem pad_length (m : List UInt8) : (pad m).length = 64 * ((pad m).length / 64) := by
  have h := zeros_end m.length
  have : (pad m).length = m.length + (1 + zeros m.length + 8) := by rw [pad, List.length_append, tail_length]
  omega

/-- The bytes of the words, the first k. -/
def dgs (hs : List Nat) : Nat → List UInt8
  | 0 => List.replicate 32 0
  | k + 1 => (dgs hs k).set k (ub (hs.getD (k / 4) 0 / 2 ^ (24 - 8 * (k % 4)) % 256))
theorem dgs_length (hs : List Nat) (k : Nat) : (dgs hs k).length = 32 := by
  induction k with
  | zero => simp [dgs]
  | succ k ih => simp [dgs, ih]

/-- The digest of a message. -/
def sha (m : List UInt8) : List UInt8 := dgs (Hn (pad m) ((pad m).length / 64)) 32
theorem sha_length (m : List UInt8) : (sha m).length = 32 := dgs_length _ _

theorem dg_step (hs : List Nat) (k x : Nat) (hx : x = hs.getD (k / 4) 0) : ((dgs hs k).map B8).set k (.int .u8 ((x : Int) / 2 ^ (24 - 8 * (k % 4)) % 256)) = (dgs hs (k + 1)).map B8 := by
  rw [dgs, List.map_set, ← hx]
  congr 1
  unfold B8
  rw [ub_toNat _ (by omega)]
  simp

theorem b8_one (l : List UInt8) : ∀ v ∈ l.map B8, v.oneCell' = true := by
  intro v hv; simp at hv; obtain ⟨x, _, rfl⟩ := hv; rfl

/-- assizeref02.begin and table, digest.start. -/
theorem i55' (l : List Nat) (h : l.length = 8) : (Tryd.prog.info? 55).map (·.size) = some (l.map U32).length := by rw [List.length_map, h]; exact i55
theorem i66' (l : List Nat) (h : l.length = 64) : (Tryd.prog.info? 66).map (·.size) = some (l.map U32).length := by rw [List.length_map, h]; exact i66
theorem i25' (l : List UInt8) (h : l.length = 32) : (Tryd.prog.info? 25).map (·.size) = some (l.map B8).length := by rw [List.length_map, h]; exact i25

set_option maxRecDepth 100000 in
theorem begin_any (w : World) : Calls Tryd.prog 35 #[] w fun e w' => e = .returned (.agg (init8.map U32).toArray) ∧ Below w.heap.size w w' := by
  have hi := i55' init8 rfl
  have ho : (List.replicate 8 (Value.int .u32 0)).length = (init8.map U32).length := rfl
  go_enter Tryd.func35, Tryd.ntmps35
  go_wp2_with ((with_reducible show wpList _ _ _ _ _ _); first | (refine wpList_alloc_at rfl 55 rfl _ 8 z55 ?_; intro w1 hA1 hb1 hs1) | (refine wpList_build_at rfl 55 _ rfl (init8.map U32) (by kernel_rfl) ?_) | (refine wpList_store_at (P := Tryd.prog) rfl 55 (.tmp 0) (.tmp 1) rfl w.heap.size (init8.map U32) rfl rfl 55 _ hA1 hi ho (u32_one _) ?_; intro w2 hA2 hb2 hs2))
  refine bodyPost_ret (results_at rfl _ _ w.heap.size 55 (init8.map U32) _ rfl hA2 Tryd.underlying55 rfl hi) rfl ?_
  exact ⟨rfl, hb2.below hb1 (Nat.le_refl _) (by omega)⟩

set_option maxRecDepth 100000 in
theorem table_any (w : World) : Calls Tryd.prog 36 #[] w fun e w' => e = .returned (.agg (roots.map U32).toArray) ∧ Below w.heap.size w w' := by
  have hi := i66' roots roots_length
  have ho : (List.replicate 64 (Value.int .u32 0)).length = (roots.map U32).length := by rw [List.length_map, roots_length]; simp
  go_enter Tryd.func36, Tryd.ntmps36
  go_wp2_with ((with_reducible show wpList _ _ _ _ _ _); first | (refine wpList_alloc_at rfl 66 rfl _ 64 z66 ?_; intro w1 hA1 hb1 hs1) | (refine wpList_build_at rfl 66 _ rfl (roots.map U32) (by kernel_rfl) ?_) | (refine wpList_store_at (P := Tryd.prog) rfl 66 (.tmp 0) (.tmp 1) rfl w.heap.size (roots.map U32) rfl rfl 66 _ hA1 hi ho (u32_one _) ?_; intro w2 hA2 hb2 hs2))
  refine bodyPost_ret (results_at rfl _ _ w.heap.size 66 (roots.map U32) _ rfl hA2 Tryd.underlying66 rfl hi) rfl ?_
  exact ⟨rfl, hb2.below hb1 (Nat.le_refl _) (by omega)⟩

/-- A made hash, as cells. -/
def hashOf (hs : List Nat) (blk : List UInt8) (n : Nat) : List Value := hs.map U32 ++ blk.map B8 ++ [.int .i64 (n : Int), .bool true]
theorem hashOf_length (hs : List Nat) (blk : List UInt8) (n : Nat) (h8 : hs.length = 8) (h64 : blk.length = 64) : (hashOf hs blk n).length = 74 := by simp [hashOf, h8, h64]

set_option maxRecDepth 100000 in
theorem start_any (w : World) : Calls Tryd.prog 31 #[] w fun e w' => e = .returned (.agg (hashOf init8 (List.replicate 64 0) 0).toArray) ∧ Below w.heap.size w w' := by
  have hi : (Tryd.prog.info? 58).map (·.size) = some (hashOf init8 (List.replicate 64 0) 0).length := i58
  have ho : hash0.length = (hashOf init8 (List.replicate 64 0) 0).length := rfl
  have h1 : ∀ v ∈ hashOf init8 (List.replicate 64 0) 0, v.oneCell' = true := by
    intro u hu
    have : ((hashOf init8 (List.replicate 64 0) 0).all fun u => u.oneCell') = true := by kernel_rfl
    exact List.all_eq_true.1 this u hu
  go_enter Tryd.func31, Tryd.ntmps31
  go_wp2_with ((with_reducible show wpList _ _ _ _ _ _); first | (refine wpList_alloc_at rfl 58 rfl _ 74 z58 ?_; intro w1 hA1 hb1 hs1) | (refine wpList_build_at (o := { dst := some 1, .. }) rfl 55 _ rfl (init8.map U32) (by kernel_rfl) ?_) | (refine wpList_build_at rfl 58 _ rfl (hashOf init8 (List.replicate 64 0) 0) (by kernel_rfl) ?_) | (refine wpList_store_at (P := Tryd.prog) rfl 58 (.tmp 0) (.tmp 2) rfl w.heap.size (hashOf init8 (List.replicate 64 0) 0) rfl rfl 58 _ hA1 hi ho h1 ?_; intro w2 hA2 hb2 hs2))
  refine bodyPost_ret (results_at rfl _ _ w.heap.size 58 (hashOf init8 (List.replicate 64 0) 0) _ rfl hA2 Tryd.underlying58 rfl hi) rfl ?_
  exact ⟨rfl, hb2.below hb1 (Nat.le_refl _) (by omega)⟩
end Go.Proofs.YtbigkblkfnnfkaaDoor
