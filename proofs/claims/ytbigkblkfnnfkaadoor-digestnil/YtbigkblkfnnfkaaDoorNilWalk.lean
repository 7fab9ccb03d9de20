/- The law DigestNil, walked: both hashes answer nothing. -/
import Derived.Test.YtbigkblkfnnfkaaDoorNil
namespace Go.Proofs.YtbigkblkfnnfkaaDoor
open Go.RowKit
set_option linter.unusedVariables false

theorem agg_eq_self (w : World) : (Op.equalIn 10000 25 (.agg dig0.toArray) (.agg #[.int .u8 0, .int .u8 0, .int .u8 0, .int .u8 0, .int .u8 0, .int .u8 0, .int .u8 0, .int .u8 0, .int .u8 0, .int .u8 0, .int .u8 0, .int .u8 0, .int .u8 0, .int .u8 0, .int .u8 0, .int .u8 0, .int .u8 0, .int .u8 0, .int .u8 0, .int .u8 0, .int .u8 0, .int .u8 0, .int .u8 0, .int .u8 0, .int .u8 0, .int .u8 0, .int .u8 0, .int .u8 0, .int .u8 0, .int .u8 0, .int .u8 0, .int .u8 0])).run Tryd.prog w = .ok true w := by kernel_rfl

/-- What the loop knows. -/
def NilRel (B : Nat) (w wr : World) : Prop := wr.cell? ⟨B + 1, 0, none⟩ = some (.pointer none) ∧ wr.cell? ⟨B + 1, 1, none⟩ = some (.pointer (some ⟨B, 0, none⟩)) ∧ wr.cell? ⟨B, 73, none⟩ = some (.bool false) ∧ Below B w wr

theorem NilRel.below {B : Nat} {w wr wr' : World} (h : NilRel B w wr) (hb : Below wr.heap.size wr wr') : NilRel B w wr' :=
  ⟨by rw [hb.cell (lt_of_cell h.1)]; exact h.1, by rw [hb.cell (lt_of_cell h.2.1)]; exact h.2.1, by rw [hb.cell (lt_of_cell h.2.2.1)]; exact h.2.2.1, h.2.2.2.trans (hb.mono (Nat.le_of_lt (lt_of_cell h.2.2.1)))⟩

theorem NilRel.unmade {B : Nat} {w wr : World} (h : NilRel B w wr) (k : Nat) (hk : k < 2) : ∃ v, wr.cell? ⟨B + 1, k, none⟩ = some v ∧ Unmade wr v := by
  match k, hk with
  | 0, _ => exact ⟨_, h.1, .inl rfl⟩
  | 1, _ => exact ⟨_, h.2.1, .inr ⟨B, rfl, h.2.2.1⟩⟩

set_option maxRecDepth 100000 in
set_option maxHeartbeats 800000 in
theorem nil_walk (x : Value) (w : World) :
    Calls Tryd.prog 7 #[x] w fun e w' => e = .returned (.bool true) ∧ Below w.heap.size w w' := by
  have hcmp := agg_eq_self
  go_enter Tryd.func7, Tryd.ntmps7
  go_wp2_with (first | (refine wpList_build_at rfl 58 #[] rfl hash0 (by kernel_rfl) ?_) | (refine wpList_box_at rfl 58 (.tmp 6) rfl hash0 rfl ?_; intro w1 hA1 hb1 hs1))
  have H0 : NilRel w.heap.size w (w1.alloc (.cells #[.pointer none, .pointer (some ⟨w.heap.size, 0, none⟩)] 44)) := by
    have hn := _root_.Go.heap_alloc_new w1 (.cells #[.pointer none, .pointer (some ⟨w.heap.size, 0, none⟩)] 44)
    rw [hs1] at hn
    refine ⟨?_, ?_, ?_, hb1.alloc (by omega) _⟩
    · simp [World.cell?, hn]
    · simp [World.cell?, hn]
    · rw [World.cell?_alloc_past _ _ _ (by omega), hA1.cell 73]; rfl
  clear hA1 hb1
  go_loopw [4] (fun t wr => ∃ k : Nat, k ≤ 2 ∧ t = .int .i64 k ∧ NilRel w.heap.size w wr) (fun t _ => 2 - (intOf t).toNat)
  case atStart => exact ⟨0, by omega, rfl, H0⟩
  case round =>
    obtain ⟨k, hk, rfl, hr⟩ := hrel
    clear H0
    by_cases hlt : k < 2
    · obtain ⟨v, hcell, hu⟩ := hr.unmade k hlt
      go_wp2_with (first | (go_at_call 24; refine (write_no _ _ _ hu).mono ?_; rintro e w9 ⟨rfl, rfl⟩) | (go_at_call 27; refine (sum_no _ _ hu).mono ?_; rintro e w2 ⟨rfl, hb2⟩; have hu2 := hu.below hb2) | (go_at_call 29; refine (len_no _ _ hu2).mono ?_; rintro e w9 ⟨rfl, rfl⟩) | (go_at_call 28; refine (clone_no _ _ hu2).mono ?_; rintro e w9 ⟨rfl, rfl⟩))
      go_roundw
      case rel => exact ⟨k + 1, by omega, by go_num, hr.below hb2⟩
      case measure => simp [intOf]; omega
    · go_wp2
      go_ret
      exact ⟨rfl, hr.2.2.2⟩
end Go.Proofs.YtbigkblkfnnfkaaDoor
