/- The law's own 'kept': lists of numbers that were lent and not written are found as they were. -/
import Derived.Test.YtjedkfohmedmaaaSmL
namespace Go.Proofs.Ytjedkfohmedmaaa
open Go.RowKit
set_option linter.unusedVariables false
attribute [local go_sem ↓] Go.wp_at_zero Go.wp_at_succ

/-- A row of rows of numbers that are lent. -/
def LentII (w : World) (a : Option Addr) (zss : List (List Int)) : Prop := zss = [] ∨ ∃ g o, a = some ⟨g, o, none⟩ ∧ ∀ i zs, zss[i]? = some zs → ∃ b, w.cell? ⟨g, o + i, none⟩ = some (.slice (some ⟨b, 0, none⟩) zs.length (zs.length + 3)) ∧ BlkI w b ((lentI zs).map I64)
theorem LentII.below {w w' : World} {a : Option Addr} {zss : List (List Int)} (h : LentII w a zss) (hb : Below w.heap.size w w') : LentII w' a zss := by
  rcases h with h | ⟨g, o, ha, hr⟩
  · exact .inl h
  · refine .inr ⟨g, o, ha, fun i zs hz => ?_⟩
    obtain ⟨b, h1, h2⟩ := hr i zs hz
    exact ⟨b, (hb.cell (lt_of_cell h1)).trans h1, h2.below hb⟩
theorem LentII.at {w : World} {a : Option Addr} {zss : List (List Int)} (h : LentII w a zss) (i : Nat) (zs : List Int) (hz : zss[i]? = some zs) : ∃ g o b, a = some ⟨g, o, none⟩ ∧ w.cell? ⟨g, o + i, none⟩ = some (.slice (some ⟨b, 0, none⟩) zs.length (zs.length + 3)) ∧ BlkI w b ((lentI zs).map I64) := by
  rcases h with rfl | ⟨g, o, ha, hr⟩
  · simp at hz
  · obtain ⟨b, h⟩ := hr i zs hz
    exact ⟨g, o, b, ha, h⟩
theorem LentII.row {w : World} {a : Option Addr} {zss : List (List Int)} (h : LentII w a zss) (hm : ∀ zs ∈ zss, zs.length ≤ 4611686018427387904) : RowII w a zss := by
  rcases h with h | ⟨g, o, ha, hr⟩
  · exact .inl h
  · refine .inr ⟨g, o, ha, fun i zs hz => ?_⟩
    obtain ⟨b, h1, h2⟩ := hr i zs hz
    exact ⟨_, _, h1, h2.row_lent, by omega, hm zs (List.mem_of_getElem? hz)⟩

set_option maxRecDepth 100000 in
set_option maxHeartbeats 3200000 in
theorem kept_any (xs : List (List Int)) (a1 a2 : Option Addr) (c1 c2 : Nat) (w : World) (h1 : LentII w a1 xs) (h2 : RowII w a2 xs) (hl1 : xs.length ≤ 4611686018427387904) (hk1 : xs.length ≤ c1) (hk2 : xs.length ≤ c2) (hm : ∀ x ∈ xs, x.length ≤ 1099511627776) :
    Calls Try.prog 20 #[.slice a1 xs.length c1, .slice a2 xs.length c2] w fun r w' => r = .returned (.bool true) ∧ Below w.heap.size w w' := by
  obtain ⟨n, hn⟩ : ∃ n, Hid (n = xs.length) := ⟨_, (rfl : xs.length = _)⟩
  rw [← hn.out] at hl1 hk1 hk2 ⊢
  have HR : Hid (LentII w a1 xs ∧ RowII w a2 xs) := ⟨h1, h2⟩
  have HM : Hid (∀ x ∈ xs, x.length ≤ 1099511627776) := hm
  clear h1 h2 hm
  go_enter Try.func20, Try.ntmps20
  go_wp2_with fail
  go_loopw [5] (fun j wr => ∃ i : Nat, j = .int .i64 (i : Int) ∧ i ≤ n ∧ Hid (Below w.heap.size w wr)) (fun j _ => n - (intOf j).toNat)
  case atStart => exact ⟨0, rfl, by omega, Below.refl _ _⟩
  case round =>
    obtain ⟨i, rfl, hi, hX⟩ := hrel
    by_cases hc : i < n
    · obtain ⟨x, hx⟩ : ∃ k, xs[i]? = some k := ⟨xs[i]'(by rw [← hn.out]; exact hc), by rw [List.getElem?_eq_getElem]⟩
      have hbw := hX.out
      obtain ⟨g1, o1, b1, rfl, hr1, hq1⟩ := (HR.out.1.below hbw).at i x hx
      obtain ⟨g2, o2, b2, k2, rfl, hr2, hp1, hp2, hp3⟩ := (HR.out.2.below hbw).at i x hx
      have hxm := HM.out x (List.mem_of_getElem? hx)
      have HC : Hid (∀ u, Below wr.heap.size wr u → Calls Try.prog 40 #[.slice (some ⟨b1, 0, none⟩) x.length (x.length + 3), .slice b2 x.length k2] u fun r w' => r = .returned (.bool true) ∧ Below u.heap.size u w') := fun u hu => keptInts_any b2 k2 b1 x u (hp1.below hu) (hq1.below hu) hxm
      obtain ⟨lx, hlx⟩ : ∃ l, l = x.length := ⟨_, rfl⟩
      rw [← hlx] at hr1 hr2 HC
      clear hX HR hx hq1 hp1 hp2 hp3 hlx hxm HM
      have hBW : Hid (Below w.heap.size w wr) := hbw
      clear hbw
      go_wp2_with fail
      go_region_held3 (fun w' => w'.cell? ⟨g1, o1 + i, none⟩ = some (.slice (some ⟨b1, 0, none⟩) lx (lx + 3)) ∧ w'.cell? ⟨g2, o2 + i, none⟩ = some (.slice b2 lx k2)) (first | exact ⟨hr1, hr2⟩ | exact ⟨(hbel2.cell (lt_of_cell hr1)).trans hr1, (hbel2.cell (lt_of_cell hr2)).trans hr2⟩) (first | (go_at_call 40; refine (HC.out _ (Below.refl _ wr).drew).mono ?_; rintro e w2 ⟨rfl, hbel2⟩))
      have hB2 : Hid (Below w.heap.size w w2) := (hBW.out.trans ((Below.refl _ wr).drew.mono hBW.out.size)).trans (hbel2.mono hBW.out.size)
      clear hbel2 hBW HC hr1 hr2
      go_wp2
      go_roundw
      case rel => exact ⟨i + 1, by go_num, by omega, hB2.out⟩
      case measure => simp [intOf]; omega
    · clear HR
      go_wp2
      go_ret
      exact ⟨rfl, hX.out⟩
end Go.Proofs.Ytjedkfohmedmaaa
