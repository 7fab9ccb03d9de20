/- assizekit.KeptEvents: what was lent and not written is found as it was. -/
import Derived.Test.YtjedkfohmedmaaaLvE
namespace Go.Proofs.Ytjedkfohmedmaaa
open Go.RowKit
set_option linter.unusedVariables false
attribute [local go_sem ↓] Go.wp_at_zero Go.wp_at_succ

/-- 'b[:h]' of events. -/
theorem runE_slice_to (w : World) (a : Option Addr) (len cap h : Nat) (x : Int) (hx : x = (h : Int)) (hh : h ≤ cap) :
    (Instr.slice 22 (.slice a len cap) none (some (.int .i64 x)) none).run Try.prog w = .ok (.slice a h cap) w := by
  have he : Try.prog.elem 22 = 25 := by simp [Program.elem, Try.underlying22]
  rw [run_slice_h w 22 a len cap (by rw [he]; exact Try.underlying22) .i64 x (by omega) (by omega), he, size25]
  have hz : ∀ p : Addr, p.add 0 = p := fun p => by cases p; simp [Addr.add]
  have hm : a.map (fun p => p.add 0) = a := by cases a <;> simp [hz]
  simp only [Result.andThen, sliced, Nat.zero_mul, hm, Nat.sub_zero]
  rw [show x.toNat = h by omega]
  simp
theorem sameEvents_len (xs ys : List Ev) (a1 a2 : Option Addr) (n1 n2 c1 c2 : Nat) (w : World) (h1 : RowEv w a1 xs) (h2 : RowEv w a2 ys) (e1 : xs.length = n1) (e2 : ys.length = n2) (hl1 : n1 ≤ 4611686018427387904) (hl2 : n2 ≤ 4611686018427387904) (hk1 : n1 ≤ c1) (hk2 : n2 ≤ c2) :
    Calls Try.prog 39 #[.slice a1 n1 c1, .slice a2 n2 c2] w fun r w' => r = .returned (.bool (sameEv xs ys)) ∧ Below w.heap.size w w' := by
  subst e1 e2
  exact sameEvents_any xs ys a1 a2 c1 c2 w h1 h2 hl1 hl2 hk1 hk2
theorem RowEv.drew {w : World} {a : Option Addr} {es : List Ev} (h : RowEv w a es) : RowEv w.drew a es := h
theorem rowEv_lent {w : World} {g : Nat} {es : List Ev} (h : At 25 w g (flatE (lentE es))) : RowEv w (some ⟨g, 0, none⟩) es := by
  rcases rowEv_of h with h0 | ⟨g', o, ha, hr⟩
  · have := lentE_length es
    rw [h0] at this
    simp at this
  · refine .inr ⟨g', o, ha, fun i e he => hr i e ?_⟩
    rw [lentE, List.getElem?_append_left (List.getElem?_eq_some_iff.1 he).1]
    exact he

set_option maxRecDepth 100000 in
set_option maxHeartbeats 800000 in
theorem keptEvents_any (a : Option Addr) (cap g : Nat) (bs : List Ev) (w : World) (hrow : RowEv w a bs) (hblk : At 25 w g (flatE (lentE bs))) (hmax : bs.length ≤ 1099511627776) :
    Calls Try.prog 19 #[.slice (some ⟨g, 0, none⟩) bs.length (bs.length + 3), .slice a bs.length cap] w fun e w' => e = .returned (.bool true) ∧ Below w.heap.size w w' := by
  have hS : sameEv (lentE bs) (lentE bs) = true := decide_eq_true rfl
  have i1 : (0 : Int) ≤ (bs.length : Int) := by omega
  have i2 : (bs.length : Int) + 3 ≤ 1099511627779 := by omega
  have hs1 := fun w => runE_slice_to w (some ⟨g, 0, none⟩) bs.length (bs.length + 3) (bs.length + 3) ((bs.length : Int) + 3) (by omega) (by omega)
  have hs2 := fun w => runE_slice_to w (some ⟨g, 0, none⟩) bs.length (bs.length + 3) (bs.length + 3) ((bs.length + 3 : Nat) : Int) (by omega) (by omega)
  have hs3 := fun w0 => runE_slice_to w0 (some ⟨w.heap.size, 0, none⟩) bs.length (bs.length + 3) (bs.length + 3) ((bs.length : Int) + 3) (by omega) (by omega)
  have hw3 : IntKind.i64.wrap ((bs.length : Int) + 3) = (bs.length : Int) + 3 := by rw [IntKind.wrap_i64]; omega
  go_enter Try.func19, Try.ntmps19
  go_wp2
  go_region_held3 (fun _ => True) (trivial) (first | (go_at_call 6; refine (lentEvents_any a cap bs _ hrow.drew hmax).mono ?_; rintro e w1 ⟨rfl, hblk1, hbel1⟩) | (go_at_call 39; refine (sameEvents_len (lentE bs) (lentE bs) _ _ _ _ _ _ _ (rowEv_of (At.below hblk.drew hbel1)) (rowEv_of hblk1) (lentE_length bs) (lentE_length bs) (by omega) (by omega) (by omega) (by omega)).mono ?_; rw [hS]; rintro e w2 ⟨rfl, hbel2⟩))
  go_wp2
  go_ret
  exact ⟨rfl, ((Below.refl _ w).drew.trans hbel1).trans (hbel2.mono (by have := hbel1.size; omega))⟩
end Go.Proofs.Ytjedkfohmedmaaa
