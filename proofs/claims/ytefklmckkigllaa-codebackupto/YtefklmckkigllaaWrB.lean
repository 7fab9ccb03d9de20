/- Numbers, values, nodes and codes written. -/
import Derived.Test.YtefklmckkigllaaWrA
namespace Go.Proofs.Ytefklmckkigllaa
open Go.RowKit
set_option linter.unusedVariables false

theorem row_cells {w : World} {b : Nat} {bs : List UInt8} (h : Row w (some ⟨b, 0, none⟩) bs) : ∀ j, j < bs.length → w.cell? ⟨b, j, none⟩ = some (.int .u8 ((bs.getD j 0).toNat : Int)) := by
  rcases h with rfl | ⟨b', off, e, hc⟩
  · intro j hj; simp at hj
  · cases e
    intro j hj
    have := hc j hj
    rwa [Nat.zero_add] at this

set_option maxRecDepth 100000 in
set_option maxHeartbeats 3200000 in
theorem numW_any (A g : Nat) (v : Value) (out : List UInt8) (n s : Nat) (hn : n < 18446744073709551616) (h1 : 1 ≤ s) (hs : s ≤ 8) (hfit : n / 256 ^ s = 0) (w : World) (h : Wt A w g v out) (hlen : out.length + s ≤ 1099511627776) (hAw : A ≤ w.heap.size) :
    Calls Try.prog 77 #[.pointer (some ⟨g, 0, none⟩), .int .u64 (n : Int), .int .i64 (s : Int)] w fun e w' => e = .returned (.tuple #[]) ∧ (∃ v', Wt A w' g v' (out ++ bytesOf s n)) ∧ Fb A g w w' := by
  obtain ⟨a, c, rfl⟩ := ownB_len h.own
  have hlow := h.low
  have hB := bytes_ok n s hn h1 hs hfit w
  have hbl := bytesOf_length s n
  obtain ⟨m, hm⟩ : ∃ m, Hid (m = out.length) := ⟨_, (rfl : out.length = _)⟩
  have HW : Hid (Wt A w g (.slice a m c) out) := by rw [hm.out]; exact h
  clear h hfit
  generalize bytesOf s n = bs at *
  go_enter Try.func77, Try.ntmps77
  go_wp2_with (first
    | (go_at_call 87; refine hB.mono ?_; rintro _ w1 ⟨v1, rfl, hown1, hb1⟩; refine Hid.out ?_))
  refine hidU ?_
  have hW1 := HW.out.below hb1
  have hs1 := hb1.size
  obtain ⟨b, c1, rfl, hrow⟩ : ∃ b c1, v1 = .slice (some ⟨b, 0, none⟩) s c1 ∧ Row w1 (some ⟨b, 0, none⟩) bs := by
    obtain ⟨a1, c1, hv, _, _, hr⟩ := hown1.row
    obtain ⟨_, ⟨h2, h3⟩ | ⟨b', cap, cur, h2, _⟩⟩ := hown1
    · omega
    · rw [h2] at hv
      cases hv
      exact ⟨b', _, by rw [h2, hbl], hr⟩
  have q0 : w1.cell? ⟨g, 0, none⟩ = some (.slice a m c) := by rw [hW1.cell.cell]; rfl
  clear hB hown1 HW
  go_wp2_with (first
    | ((with_reducible show wpList _ _ _ _ _ _); refine appRow (.tmp 18) (.tmp 19) A (.slice a m c) out b s c1 bs rfl rfl rfl rfl hW1.own hbl (row_cells hrow) hlen (by omega) ?_; intro v2 w2 hown2 hg2; refine Hid.out ?_))
  refine hidU ?_
  have hA2 : At 73 w2 g [.slice a m c] := grown_at (g := g) hW1.own hg2 hW1.cell (by decide)
  have hF2 : Fb A g w w2 := (Fb.of_below hb1).trans (Fb.grown hW1.own hg2)
  have hne := own_ne_at hown2 hA2 (by decide)
  obtain ⟨a2, c2, rfl⟩ := ownB_len hown2
  clear hW1 hg2 hb1 q0 hrow
  go_wp2_with (first
    | ((with_reducible show wpList _ _ _ _ _ _); refine wpList_store_one (P := Try.prog) rfl 42 (.tmp 22) (.tmp 20) rfl g 0 _ rfl rfl 73 _ hA2 (show 0 + 1 ≤ 1 by decide) i42 rfl rfl ?_; intro w3 hA3 hb3 hs3; clear hs3; refine Hid.out ?_))
  refine hidU ?_
  have hW3 := Wt.put (A := A) hA3 hb3 hlow hown2 hne
  have hF3 := hF2.trans (Fb.of_but (A := A) hb3)
  clear hA3 hb3 hA2 hF2 hown2 hne
  go_wp2
  go_end0
  exact ⟨rfl, ⟨_, hW3⟩, hF3⟩

set_option maxRecDepth 100000 in
set_option maxHeartbeats 3200000 in
theorem big_any (A g : Nat) (v : Value) (out : List UInt8) (n : Nat) (hn : n < 65536) (w : World) (h : Wt A w g v out) (hlen : out.length + 2 ≤ 1099511627776) (hAw : A ≤ w.heap.size) :
    Calls Try.prog 60 #[.pointer (some ⟨g, 0, none⟩), .int .i64 (n : Int)] w fun e w' => e = .returned (.tuple #[]) ∧ (∃ v', Wt A w' g v' (out ++ bytesOf 2 n)) ∧ Fb A g w w' := by
  have hN := numW_any A g v out n 2 (by omega) (by omega) (by omega) (by omega) w h hlen hAw
  clear h
  generalize bytesOf 2 n = bs at *
  go_enter Try.func60, Try.ntmps60
  go_wp2_with (first
    | (go_at_call 77; refine hN.mono ?_; rintro _ w1 ⟨rfl, hW1, hF1⟩; refine Hid.out ?_))
  refine hidU ?_
  go_wp2
  go_end0
  exact ⟨rfl, hW1, hF1⟩

/-- A value's bytes. -/
def encV (v : Vl) : List UInt8 := ub v.t :: bytesOf 8 v.b

set_option maxRecDepth 100000 in
set_option maxHeartbeats 3200000 in
theorem valW_any (A g : Nat) (v : Value) (out : List UInt8) (x : Vl) (hx : x.Ok) (w : World) (h : Wt A w g v out) (hlen : out.length + 9 ≤ 1099511627776) (hAw : A ≤ w.heap.size) :
    Calls Try.prog 76 #[.pointer (some ⟨g, 0, none⟩), .agg x.cells.toArray] w fun e w' => e = .returned (.tuple #[]) ∧ (∃ v', Wt A w' g v' (out ++ encV x)) ∧ Fb A g w w' := by
  obtain ⟨t, b⟩ := x
  obtain ⟨ht, hb⟩ := hx
  dsimp only at ht hb
  have hgw : w.heap.size ≠ g := by have := h.lt; omega
  have HW : Hid (Wt A w g v out) := h
  clear h
  simp only [Vl.cells]
  unfold encV
  dsimp only
  go_enter Try.func76, Try.ntmps76
  go_wp2_with (first
    | ((with_reducible show wpList _ _ _ _ _ _); refine wpList_box_at rfl 35 (.tmp 1) rfl [.int .u8 (t : Int), .int .u64 (b : Int)] rfl ?_; intro w1 hA1 hb1 hs1; clear hs1; refine Hid.out ?_))
  refine hidU ?_
  have c0 : w1.cell? ⟨w.heap.size, 0, none⟩ = some (.int .u8 (t : Int)) := by rw [hA1.cell]; rfl
  have hW1 := HW.out.below hb1
  have hs1 := hb1.size
  have hA1' := hA1
  clear HW hA1
  go_wp2_with (first
    | (go_at_call 59; refine (small_any A g v out t ht _ hW1 (by omega) (by omega)).mono ?_; rintro _ w2 ⟨rfl, ⟨v2, hW2⟩, hF2⟩; refine Hid.out ?_))
  refine hidU ?_
  have hA2 := hF2.at hA1' hgw (by decide)
  have c1 : w2.cell? ⟨w.heap.size, 1, none⟩ = some (.int .u64 (b : Int)) := by rw [hA2.cell]; rfl
  have hs2 := hF2.size
  have hF : Fb A g w w2 := (Fb.of_below hb1).trans hF2
  clear hA2 hA1' hF2 hb1 c0 hW1
  go_wp2_with (first
    | (go_at_call 77; refine (numW_any A g v2 _ b 8 hb (by omega) (by omega) (by omega) _ hW2 (by rw [List.length_append]; simp; omega) (by omega)).mono ?_; rintro _ w3 ⟨rfl, ⟨v3, hW3⟩, hF3⟩; refine Hid.out ?_))
  refine hidU ?_
  have hW : Wt A w3 g v3 (out ++ ub t :: bytesOf 8 b) := by have := hW3; rwa [List.append_assoc] at this
  have hFF := hF.trans hF3
  clear hW3 hF3 hF hW2 c1
  go_wp2
  go_end0
  exact ⟨rfl, ⟨_, hW⟩, hFF⟩

end Go.Proofs.Ytefklmckkigllaa
