/- Whether a code is large is told. -/
import Derived.Test.YtefklmckkigllaaSmB
namespace Go.Proofs.Ytefklmckkigllaa
open Go.RowKit
set_option linter.unusedVariables false

def IsB (r : Ending) : Prop := ∃ b : Bool, r = .returned (.bool b)
def IsI (r : Ending) : Prop := ∃ z : Int, r = .returned (.int .i64 z)

set_option maxRecDepth 100000 in
set_option maxHeartbeats 6400000 in
theorem weight_any (B : Nat) (x : CT) (w : World) (h : x.In B w) (hBw : B ≤ w.heap.size) : Calls Try.prog 19 #[.agg x.cells.toArray] w fun r w' => IsI r ∧ Below w.heap.size w w' := by
  have h3 := h.2.2
  have hl0 := h.1.1
  clear h
  obtain ⟨a, c, ls, k, d, f, zs⟩ := x
  dsimp only at h3 hl0
  simp only [CT.cells]
  obtain ⟨nl, hnl⟩ : ∃ q, Hid (q = ls.length) := ⟨_, (rfl : ls.length = _)⟩
  obtain ⟨n, hn⟩ : ∃ q, Hid (q = zs.length) := ⟨_, (rfl : zs.length = _)⟩
  have hl1 := h3.1
  have hk1 := h3.2.1
  rw [← hn.out] at hl1 hk1
  rw [← hnl.out] at hl0
  rw [← hnl.out, ← hn.out]
  have HR : Hid (RowBT B w d f zs) := h3
  clear h3
  go_enter Try.func19, Try.ntmps19
  go_wp2_with (first
    | ((with_reducible show wpList _ _ _ _ _ _); refine wpList_box_at rfl 25 (.tmp 0) rfl [.slice a nl c, .int .i64 k, .slice d n f] rfl ?_; intro w1 hA1 hb1 hs1; clear hs1; refine Hid.out ?_))
  refine hidU ?_
  have HA : Hid (At 25 w1 w.heap.size [.slice a nl c, .int .i64 k, .slice d n f]) := hA1
  have y0 : w1.cell? ⟨w.heap.size, 0, none⟩ = some (.slice a nl c) := by rw [hA1.cell]; rfl
  clear hA1
  go_wp2_with fail
  clear y0
  go_loopw [3, 4] (fun u j wr => ∃ i : Nat, j = .int .i64 (i : Int) ∧ i ≤ n ∧ Hid ((∃ z : Int, u = .int .i64 z) ∧ Below w1.heap.size w1 wr)) (fun u j _ => n - (intOf j).toNat)
  case atStart => exact ⟨0, rfl, by omega, ⟨_, rfl⟩, Below.refl _ _⟩
  case round =>
    obtain ⟨i, rfl, hi, hX⟩ := hrel
    obtain ⟨⟨z, rfl⟩, hbr⟩ := hX.out
    obtain ⟨wo, hwo⟩ : ∃ x, x = wr := ⟨_, rfl⟩
    subst hwo
    have hwr : Below w.heap.size w wo := hb1.trans (hbr.mono hb1.size)
    have u2 : wo.cell? ⟨w.heap.size, 2, none⟩ = some (.slice d n f) := by rw [(HA.out.below hbr).cell]; rfl
    by_cases hc : i < n
    · obtain ⟨x, hx⟩ : ∃ k, zs[i]? = some k := ⟨zs[i]'(by rw [← hn.out]; exact hc), by rw [List.getElem?_eq_getElem]⟩
      obtain ⟨g1, o1, rfl, hg1, hr1, hi1⟩ := (RowBT.old HR.out (Old.of_below hwr hBw)).at i x hx
      obtain ⟨p, pc, vs, s, e, ec, ns⟩ := x
      simp only [BT.cells] at hr1
      have hR2 : RowNT B wo e ec ns := hi1.2.2
      obtain ⟨lv, hlv⟩ : ∃ q, Hid (q = vs.length) := ⟨_, (rfl : vs.length = _)⟩
      obtain ⟨m, hm⟩ : ∃ q, Hid (q = ns.length) := ⟨_, (rfl : ns.length = _)⟩
      have hlm := hR2.1
      have hcm := hR2.2.1
      rw [← hm.out] at hlm hcm
      rw [← hlv.out, ← hm.out] at hr1
      have p0 : wo.cell? ⟨g1, o1 + i * 3, none⟩ = some (.slice p lv pc) := by have := hr1 0 _ rfl; simpa using this
      have HP : Hid (wo.cell? ⟨g1, o1 + i * 3 + 2, none⟩ = some (.slice e m ec) ∧ g1 < wo.heap.size) := ⟨hr1 2 _ rfl, by have := hwr.size; omega⟩
      have HN : Hid (RowNT B wo e ec ns) := hR2
      clear hX hx hi1 hr1 hR2
      go_wp2_with fail
      clear p0 u2
      go_loopw [3, 5] (fun u j wr => ∃ t : Nat, j = .int .i64 (t : Int) ∧ t ≤ m ∧ Hid ((∃ z : Int, u = .int .i64 z) ∧ Below wo.heap.size wo wr)) (fun u j _ => m - (intOf j).toNat)
      case atStart => exact ⟨0, rfl, by omega, ⟨_, rfl⟩, Below.refl _ _⟩
      case round =>
        obtain ⟨t, rfl, ht, hY⟩ := hrel
        obtain ⟨⟨z', rfl⟩, hbt⟩ := hY.out
        have hbt1 : Below w1.heap.size w1 wr := hbr.trans (hbt.mono hbr.size)
        have v2 : wr.cell? ⟨w.heap.size, 2, none⟩ = some (.slice (some ⟨g1, o1, none⟩) n f) := by rw [(HA.out.below hbt1).cell]; rfl
        have p2 : wr.cell? ⟨g1, o1 + i * 3 + 2, none⟩ = some (.slice e m ec) := by
          rw [World.cell?_of_block (w := wo) (hbt.block g1 HP.out.2)]
          exact HP.out.1
        by_cases hct : t < m
        · obtain ⟨U, hU⟩ : ∃ k, ns[t]? = some k := ⟨ns[t]'(by rw [← hm.out]; exact hct), by rw [List.getElem?_eq_getElem]⟩
          obtain ⟨h1, r1, rfl, hh1, hr1, -⟩ := (RowNT.old HN.out (Old.of_below hbt (by have := hwr.size; omega))).at t U hU
          obtain ⟨ua, uc, ⟨ucs, u1, u2, u3, u4⟩⟩ := U
          simp only [NT.cells] at hr1
          have a0 : wr.cell? ⟨h1, r1 + t * 5, none⟩ = some (.slice ua ucs.length uc) := by have := hr1 0 _ rfl; simpa using this
          generalize ucs.length = un at *
          clear hY hU hr1
          go_wp2
          go_roundw
          case rel => exact ⟨t + 1, by go_num, by omega, ⟨_, rfl⟩, hbt⟩
          case measure => simp [intOf]; omega
        · clear hY
          go_wp2
          go_roundw
          case rel => exact ⟨i + 1, by go_num, by omega, ⟨_, rfl⟩, hbt1⟩
          case measure => simp [intOf]; omega
    · clear hX
      go_wp2
      go_ret
      exact ⟨⟨_, rfl⟩, hwr⟩

set_option maxRecDepth 100000 in
set_option maxHeartbeats 3200000 in
theorem large_any (B : Nat) (x : CT) (w : World) (h : x.In B w) (hBw : B ≤ w.heap.size) : Calls Try.prog 6 #[.agg x.cells.toArray] w fun r w' => IsB r ∧ Below w.heap.size w w' := by
  have Q : Hid (∀ u, Below w.heap.size w u → Calls Try.prog 19 #[.agg x.cells.toArray] u fun r w' => IsI r ∧ Below u.heap.size u w') := fun u hu => weight_any B x u (h.old (Old.of_below hu hBw)) (by have := hu.size; omega)
  have hlen : x.cells.length = 3 := rfl
  generalize x.cells = cs at *
  clear h
  have hi : (Try.prog.info? 25).map (·.size) = some cs.length := by rw [hlen]; exact i25
  go_enter Try.func6, Try.ntmps6
  go_wp2_with (first
    | ((with_reducible show wpList _ _ _ _ _ _); refine wpList_box_at rfl 25 (.tmp 0) rfl cs rfl ?_; intro w1 hA1 hb1 hs1; clear hs1; refine Hid.out ?_))
  refine hidU ?_
  go_wp2_with (first
    | ((with_reducible show wpList _ _ _ _ _ _); refine wpList_load_at (P := Try.prog) rfl 25 (.tmp 1) rfl w.heap.size rfl 25 cs hA1 _ Try.underlying25 rfl hi ?_)
    | (go_at_call 19; refine (Q.out _ hb1).mono ?_; rintro _ w2 ⟨⟨z, rfl⟩, hb2⟩))
  go_ret
  exact ⟨⟨_, rfl⟩, hb1.trans (hb2.mono hb1.size)⟩

end Go.Proofs.Ytefklmckkigllaa
