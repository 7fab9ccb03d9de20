/- CodeBack: what is left of its road, joined. -/
import Derived.Test.YtefklmckkigllaaSmB
import Derived.Test.YtefklmckkigllaaWrF
import Derived.Test.YtefklmckkigllaaKnB
import Derived.Test.YtefklmckkigllaaKtB
import Derived.Test.YtefklmckkigllaaCoN
/-! text LgA -/
namespace Go.Proofs.Ytefklmckkigllaa
open Go.RowKit
set_option linter.unusedVariables false

def IsB (r : Ending) : Prop := ∃ b : Bool, r = .returned (.bool b)
def IsI (r : Ending) : Prop := ∃ z : Int, r = .returned (.int .i64 z)

set_option maxRecDepth 100000 in
set_option maxHeartbeats 6400000 in
theorem weight_any (B : Nat) (x : CT) (w : World) (h : x.In B w) (hBw : B ≤ w.heap.size) : Calls Try.prog 19 #[.agg x.cells.toArray] w fun r w' => IsI r ∧ Below w.heap.size w w' := by
  have h3 := h.2.2
  have hl0 := h.1.1
  clear h
  obtain ⟨a, c, ls, k, d, f, zs⟩ := x
  dsimp only at h3 hl0
  simp only [CT.cells]
  obtain ⟨nl, hnl⟩ : ∃ q, Hid (q = ls.length) := ⟨_, (rfl : ls.length = _)⟩
  obtain ⟨n, hn⟩ : ∃ q, Hid (q = zs.length) := ⟨_, (rfl : zs.length = _)⟩
  have hl1 := h3.1
  have hk1 := h3.2.1
  rw [← hn.out] at hl1 hk1
  rw [← hnl.out] at hl0
  rw [← hnl.out, ← hn.out]
  have HR : Hid (RowBT B w d f zs) := h3
  clear h3
  go_enter Try.func19, Try.ntmps19
  go_wp2_with (first
    | ((with_reducible show wpList _ _ _ _ _ _); refine wpList_box_at rfl 25 (.tmp 0) rfl [.slice a nl c, .int .i64 k, .slice d n f] rfl ?_; intro w1 hA1 hb1 hs1; clear hs1; refine Hid.out ?_))
  refine hidU ?_
  have HA : Hid (At 25 w1 w.heap.size [.slice a nl c, .int .i64 k, .slice d n f]) := hA1
  have y0 : w1.cell? ⟨w.heap.size, 0, none⟩ = some (.slice a nl c) := by rw [hA1.cell]; rfl
  clear hA1
  go_wp2_with fail
  clear y0
  go_loopw [3, 4] (fun u j wr => ∃ i : Nat, j = .int .i64 (i : Int) ∧ i ≤ n ∧ Hid ((∃ z : Int, u = .int .i64 z) ∧ Below w1.heap.size w1 wr)) (fun u j _ => n - (intOf j).toNat)
  case atStart => exact ⟨0, rfl, by omega, ⟨_, rfl⟩, Below.refl _ _⟩
  case round =>
    obtain ⟨i, rfl, hi, hX⟩ := hrel
    obtain ⟨⟨z, rfl⟩, hbr⟩ := hX.out
    obtain ⟨wo, hwo⟩ : ∃ x, x = wr := ⟨_, rfl⟩
    subst hwo
    have hwr : Below w.heap.size w wo := hb1.trans (hbr.mono hb1.size)
    have u2 : wo.cell? ⟨w.heap.size, 2, none⟩ = some (.slice d n f) := by rw [(HA.out.below hbr).cell]; rfl
    by_cases hc : i < n
    · obtain ⟨x, hx⟩ : ∃ k, zs[i]? = some k := ⟨zs[i]'(by rw [← hn.out]; exact hc), by rw [List.getElem?_eq_getElem]⟩
      obtain ⟨g1, o1, rfl, hg1, hr1, hi1⟩ := (RowBT.old HR.out (Old.of_below hwr hBw)).at i x hx
      obtain ⟨p, pc, vs, s, e, ec, ns⟩ := x
      simp only [BT.cells] at hr1
      have hR2 : RowNT B wo e ec ns := hi1.2.2
      obtain ⟨lv, hlv⟩ : ∃ q, Hid (q = vs.length) := ⟨_, (rfl : vs.length = _)⟩
      obtain ⟨m, hm⟩ : ∃ q, Hid (q = ns.length) := ⟨_, (rfl : ns.length = _)⟩
      have hlm := hR2.1
      have hcm := hR2.2.1
      rw [← hm.out] at hlm hcm
      rw [← hlv.out, ← hm.out] at hr1
      have p0 : wo.cell? ⟨g1, o1 + i * 3, none⟩ = some (.slice p lv pc) := by have := hr1 0 _ rfl; simpa using this
      have HP : Hid (wo.cell? ⟨g1, o1 + i * 3 + 2, none⟩ = some (.slice e m ec) ∧ g1 < wo.heap.size) := ⟨hr1 2 _ rfl, by have := hwr.size; omega⟩
      have HN : Hid (RowNT B wo e ec ns) := hR2
      clear hX hx hi1 hr1 hR2
      go_wp2_with fail
      clear p0 u2
      go_loopw [3, 5] (fun u j wr => ∃ t : Nat, j = .int .i64 (t : Int) ∧ t ≤ m ∧ Hid ((∃ z : Int, u = .int .i64 z) ∧ Below wo.heap.size wo wr)) (fun u j _ => m - (intOf j).toNat)
      case atStart => exact ⟨0, rfl, by omega, ⟨_, rfl⟩, Below.refl _ _⟩
      case round =>
        obtain ⟨t, rfl, ht, hY⟩ := hrel
        obtain ⟨⟨z', rfl⟩, hbt⟩ := hY.out
        have hbt1 : Below w1.heap.size w1 wr := hbr.trans (hbt.mono hbr.size)
        have v2 : wr.cell? ⟨w.heap.size, 2, none⟩ = some (.slice (some ⟨g1, o1, none⟩) n f) := by rw [(HA.out.below hbt1).cell]; rfl
        have p2 : wr.cell? ⟨g1, o1 + i * 3 + 2, none⟩ = some (.slice e m ec) := by
          rw [World.cell?_of_block (w := wo) (hbt.block g1 HP.out.2)]
          exact HP.out.1
        by_cases hct : t < m
        · obtain ⟨U, hU⟩ : ∃ k, ns[t]? = some k := ⟨ns[t]'(by rw [← hm.out]; exact hct), by rw [List.getElem?_eq_getElem]⟩
          obtain ⟨h1, r1, rfl, hh1, hr1, -⟩ := (RowNT.old HN.out (Old.of_below hbt (by have := hwr.size; omega))).at t U hU
          obtain ⟨ua, uc, ⟨ucs, u1, u2, u3, u4⟩⟩ := U
          simp only [NT.cells] at hr1
          have a0 : wr.cell? ⟨h1, r1 + t * 5, none⟩ = some (.slice ua ucs.length uc) := by have := hr1 0 _ rfl; simpa using this
          generalize ucs.length = un at *
          clear hY hU hr1
          go_wp2
          go_roundw
          case rel => exact ⟨t + 1, by go_num, by omega, ⟨_, rfl⟩, hbt⟩
          case measure => simp [intOf]; omega
        · clear hY
          go_wp2
          go_roundw
          case rel => exact ⟨i + 1, by go_num, by omega, ⟨_, rfl⟩, hbt1⟩
          case measure => simp [intOf]; omega
    · clear hX
      go_wp2
      go_ret
      exact ⟨⟨_, rfl⟩, hwr⟩

set_option maxRecDepth 100000 in
set_option maxHeartbeats 3200000 in
theorem large_any (B : Nat) (x : CT) (w : World) (h : x.In B w) (hBw : B ≤ w.heap.size) : Calls Try.prog 6 #[.agg x.cells.toArray] w fun r w' => IsB r ∧ Below w.heap.size w w' := by
  have Q : Hid (∀ u, Below w.heap.size w u → Calls Try.prog 19 #[.agg x.cells.toArray] u fun r w' => IsI r ∧ Below u.heap.size u w') := fun u hu => weight_any B x u (h.old (Old.of_below hu hBw)) (by have := hu.size; omega)
  have hlen : x.cells.length = 3 := rfl
  generalize x.cells = cs at *
  clear h
  have hi : (Try.prog.info? 25).map (·.size) = some cs.length := by rw [hlen]; exact i25
  go_enter Try.func6, Try.ntmps6
  go_wp2_with (first
    | ((with_reducible show wpList _ _ _ _ _ _); refine wpList_box_at rfl 25 (.tmp 0) rfl cs rfl ?_; intro w1 hA1 hb1 hs1; clear hs1; refine Hid.out ?_))
  refine hidU ?_
  go_wp2_with (first
    | ((with_reducible show wpList _ _ _ _ _ _); refine wpList_load_at (P := Try.prog) rfl 25 (.tmp 1) rfl w.heap.size rfl 25 cs hA1 _ Try.underlying25 rfl hi ?_)
    | (go_at_call 19; refine (Q.out _ hb1).mono ?_; rintro _ w2 ⟨⟨z, rfl⟩, hb2⟩))
  go_ret
  exact ⟨⟨_, rfl⟩, hb1.trans (hb2.mono hb1.size)⟩

end Go.Proofs.Ytefklmckkigllaa

/-! text CbA -/
namespace Go.Proofs.Ytefklmckkigllaa
open Go.RowKit
set_option linter.unusedVariables false

theorem Own.empty (base : Nat) (w : World) (hb : base ≤ w.heap.size) : Own base (w.alloc (.cells #[] 5)) (.slice (some ⟨w.heap.size, 0, none⟩) 0 0) [] :=
  ⟨rfl, .inr ⟨w.heap.size, 0, #[], rfl, hb, _root_.Go.heap_alloc_new w _, Nat.le_refl _, Nat.zero_le _, rfl, rfl⟩⟩
/-- A row of one's own that is not empty lies at a block's head. -/
theorem Own.head {base : Nat} {w : World} {v : Value} {bs : List UInt8} (h : Own base w v bs) (hne : bs ≠ []) : ∃ g cap, v = .slice (some ⟨g, 0, none⟩) bs.length cap ∧ base ≤ g ∧ g < w.heap.size ∧ bs.length ≤ cap ∧ ∀ j, j < bs.length → w.cell? ⟨g, j, none⟩ = some (.int .u8 ((bs.getD j 0).toNat : Int)) := by
  obtain ⟨a, cap, hv, hc, _, hrow⟩ := h.row
  obtain ⟨_, ⟨rfl, hn⟩ | ⟨g, cap', cur, rfl, hg, hcur, _⟩⟩ := h
  · exact absurd (List.length_eq_zero_iff.1 hn) hne
  · cases hv
    rcases hrow with hr | ⟨b, off, hb, hcell⟩
    · exact absurd hr hne
    · cases hb
      refine ⟨g, cap, rfl, hg, ?_, hc, fun j hj => ?_⟩
      · exact lt_of_cell (hcell 0 (List.length_pos_iff.2 hne))
      · have := hcell j hj
        rwa [Nat.zero_add] at this

set_option maxRecDepth 100000 in
set_option maxHeartbeats 1600000 in
theorem copyB_any (b m c : Nat) (bs : List UInt8) (w : World) (hm : bs.length = m) (hbs : ∀ j, j < bs.length → w.cell? ⟨b, j, none⟩ = some (.int .u8 ((bs.getD j 0).toNat : Int))) (hl : m ≤ 1099511627776) :
    Calls Try.prog 17 #[.slice (some ⟨b, 0, none⟩) m c] w fun e w' => ∃ v, e = .returned v ∧ Own w.heap.size w' v bs ∧ Below w.heap.size w w' := by
  have hb1 : Below w.heap.size w (w.alloc (.cells #[] 5)) := (Below.refl _ w).alloc (Nat.le_refl _) _
  have HB : Hid (∀ j, j < bs.length → (w.alloc (.cells #[] 5)).cell? ⟨b, j, none⟩ = some (.int .u8 ((bs.getD j 0).toNat : Int))) := fun j hj => by
    rw [World.cell?_of_block (w := w) (hb1.block b (lt_of_cell (hbs j hj)))]
    exact hbs j hj
  have hE := Own.empty w.heap.size w (Nat.le_refl _)
  have HE : Hid (Own w.heap.size (w.alloc (.cells #[] 5)) (.slice (some ⟨w.heap.size, 0, none⟩) 0 0) []) := hE
  clear hbs hE
  go_enter Try.func17, Try.ntmps17
  go_wp2_with (first
    | ((with_reducible show wpList _ _ _ _ _ _); refine appRow (.tmp 3) (.tmp 4) w.heap.size _ [] b m c bs rfl rfl rfl rfl HE.out hm HB.out (by simp only [List.length_nil]; omega) hb1.size ?_; intro v' w' hO hg; refine Hid.out ?_))
  refine hidU ?_
  have hO' : Own w.heap.size w' v' bs := hO
  have hbel : Below w.heap.size w w' := hb1.grown hg hb1.size HE.out.block
  clear hO hg HE HB
  go_wp2
  go_ret
  exact ⟨v', rfl, hO', hbel⟩
end Go.Proofs.Ytefklmckkigllaa

/-! text BkL -/
namespace Go.Proofs.Ytefklmckkigllaa
open Go.RowKit
set_option linter.unusedVariables false

/-- Bytes that are no code. -/
theorem read_no (a : Option Addr) (n c : Nat) (bs : List UInt8) (hn : bs.length = n) (u : World) (hr : Row u a bs) (hc : n ≤ c) (hl : n ≤ 1099511627776) (h : readC bs = none) :
    Calls Try.prog 13 #[.slice a n c] u fun e w' => e = .returned (.tuple #[.agg #[.slice none 0 0, .int .i64 0, .slice none 0 0], .int .i64 4]) ∧ Below u.heap.size u w' := by
  subst hn
  refine (read_any a c bs u hr hc hl).mono ?_
  rintro e w' ⟨⟨y, k, he, _, q | q⟩, hb⟩
  · obtain ⟨_, rfl, rfl⟩ := q
    exact ⟨he, hb⟩
  · rw [h] at q
    cases q.1
/-- Bytes that are one. -/
theorem read_yes (a : Option Addr) (n c : Nat) (bs : List UInt8) (hn : bs.length = n) (u : World) (hr : Row u a bs) (hc : n ≤ c) (hl : n ≤ 1099511627776) (d : Cd) (h : readC bs = some d) :
    Calls Try.prog 13 #[.slice a n c] u fun e w' => (∃ y0 y1 y2, e = .returned (.tuple #[.agg #[y0, y1, y2], .int .i64 0]) ∧ ∃ y : CT, y.cells = [y0, y1, y2] ∧ y.cd = d ∧ y.In w'.heap.size w') ∧ Below u.heap.size u w' := by
  subst hn
  refine (read_any a c bs u hr hc hl).mono ?_
  rintro e w' ⟨⟨y, k, he, hE, q | q⟩, hb⟩
  · rw [h] at q
    cases q.1
  · obtain ⟨hd, rfl⟩ := q
    rw [h] at hd
    exact ⟨⟨_, _, _, he, y, rfl, (Option.some.inj hd).symm, hE.1⟩, hb⟩
/-- The bytes of a code that is one. -/
theorem bytes_yes (B : Nat) (x : CT) (w : World) (hx : x.In B w) (hB : B ≤ w.heap.size) (h : checkC x.cd = 0) :
    Calls Try.prog 16 #[.agg x.cells.toArray] w fun e w' => (∃ g cap, e = .returned (.tuple #[.slice (some ⟨g, 0, none⟩) (encC x.cd).length cap, .int .i64 0]) ∧ (encC x.cd).length ≤ cap ∧ w.heap.size ≤ g ∧ g < w'.heap.size ∧ ∀ j, j < (encC x.cd).length → w'.cell? ⟨g, j, none⟩ = some (.int .u8 (((encC x.cd).getD j 0).toNat : Int))) ∧ Below w.heap.size w w' := by
  refine (bytesC_any B x w hx hB).mono ?_
  rintro e w' ⟨q | ⟨_, v, he, hO⟩, hb⟩
  · exact absurd h q.1
  · have hne : encC x.cd ≠ [] := by
      unfold encC encVs
      simp
    obtain ⟨g, cap, rfl, hg, hlt, hc, hcell⟩ := hO.head hne
    exact ⟨⟨g, cap, he, hc, hg, hlt, hcell⟩, hb⟩
theorem bytes_no (B : Nat) (x : CT) (w : World) (hx : x.In B w) (hB : B ≤ w.heap.size) (h : checkC x.cd ≠ 0) :
    Calls Try.prog 16 #[.agg x.cells.toArray] w fun e w' => e = .returned (.tuple #[.slice none 0 0, .int .i64 (checkC x.cd : Int)]) ∧ Below w.heap.size w w' := by
  refine (bytesC_any B x w hx hB).mono ?_
  rintro e w' ⟨q | ⟨q, _⟩, hb⟩
  · exact ⟨q.2, hb⟩
  · exact absurd q h
theorem bytes_some (B : Nat) (x : CT) (w : World) (hx : x.In B w) (hB : B ≤ w.heap.size) :
    Calls Try.prog 16 #[.agg x.cells.toArray] w fun e w' => (∃ v k, e = .returned (.tuple #[v, .int .i64 k])) ∧ Below w.heap.size w w' := by
  refine (bytesC_any B x w hx hB).mono ?_
  rintro e w' ⟨q | ⟨_, v, he, hO⟩, hb⟩
  · exact ⟨⟨_, _, q.2⟩, hb⟩
  · exact ⟨⟨_, _, he⟩, hb⟩
theorem rowCells {u : World} {g : Nat} {bs : List UInt8} (h : ∀ j, j < bs.length → u.cell? ⟨g, j, none⟩ = some (.int .u8 ((bs.getD j 0).toNat : Int))) : Row u (some ⟨g, 0, none⟩) bs := .inr ⟨g, 0, rfl, fun j hj => by rw [Nat.zero_add]; exact h j hj⟩
theorem rowCells' {u : World} {g n : Nat} {bs : List UInt8} (h : Row u (some ⟨g, 0, none⟩) bs) (hn : bs.length = n) (hp : 0 < n) : ∀ j, j < bs.length → u.cell? ⟨g, j, none⟩ = some (.int .u8 ((bs.getD j 0).toNat : Int)) := by
  rcases h with h | ⟨b, off, ha, hc⟩
  · rw [h] at hn; simp at hn; omega
  · cases ha
    intro j hj
    have := hc j hj
    rwa [Nat.zero_add] at this
theorem row_take {u : World} {a : Option Addr} {bs : List UInt8} (h : Row u a bs) (k : Nat) : Row u a (bs.take k) := by
  rcases h with h | ⟨b, off, ha, hc⟩
  · exact .inl (by rw [h]; simp)
  · refine .inr ⟨b, off, ha, fun j hj => ?_⟩
    rw [List.length_take] at hj
    rw [hc j (by omega)]
    have hjk : j < k := by omega
    simp [List.getD, List.getElem?_take_of_lt hjk]

/-- What stands through the law: the two codes' own blocks. -/
def Bs (w : World) (b1 : Nat) (X Y : List Value) (u : World) : Prop := Below w.heap.size w u ∧ At 25 u w.heap.size X ∧ At 25 u b1 Y
theorem Bs.go {w : World} {b1 : Nat} {X Y : List Value} {u u' : World} (h : Bs w b1 X Y u) (hb : Below u.heap.size u u') : Bs w b1 X Y u' := ⟨h.1.trans (hb.mono h.1.size), h.2.1.below hb, h.2.2.below hb⟩

end Go.Proofs.Ytefklmckkigllaa

/-! text BkNo -/
namespace Go.Proofs.Ytefklmckkigllaa
open Go.RowKit
set_option linter.unusedVariables false

set_option maxRecDepth 100000 in
set_option maxHeartbeats 12800000 in
theorem back_no (B : Nat) (x y : CT) (ab : Option Addr) (cb : Nat) (bs : List UInt8) (w : World) (hx : x.In B w) (hy : y.In B w) (hBw : B ≤ w.heap.size) (hrow : Row w ab bs) (hcb : bs.length ≤ cb) (hlb : bs.length ≤ 1099511627776) (hk1 : checkC x.cd ≠ 0) :
    Calls Try.prog 5 #[.agg x.cells.toArray, .agg y.cells.toArray, .slice ab bs.length cb] w fun e w' => e = .returned (.bool true) ∧ Below w.heap.size w w' := by
  obtain ⟨nb, hnb⟩ : ∃ n, Hid (bs.length = n) := ⟨_, (rfl : bs.length = _)⟩
  rw [hnb.out] at hcb hlb ⊢
  have HRow : Hid (Row w ab bs) := hrow
  have HXI : Hid (∀ u, Below w.heap.size w u → x.In u.heap.size u) := fun u hu => (hx.old (Old.of_below hu hBw)).up (Nat.le_trans hBw hu.size)
  have HYI : Hid (∀ u, Below w.heap.size w u → y.In u.heap.size u) := fun u hu => (hy.old (Old.of_below hu hBw)).up (Nat.le_trans hBw hu.size)
  have HOK : Hid (OkC x.cd ∧ OkC y.cd) := ⟨ok_of hx, ok_of hy⟩
  clear hrow hx hy
  have K4 : Hid (∀ u, Calls Try.prog 4 #[] u fun e w' => e = .returned (.bool true) ∧ Below u.heap.size u w') := known_any
  obtain ⟨x0, x1, x2, hxc⟩ : ∃ x0 x1 x2, Hid (x.cells = [x0, x1, x2]) := ⟨_, _, _, (rfl : x.cells = _)⟩
  obtain ⟨y0, y1, y2, hyc⟩ : ∃ y0 y1 y2, Hid (y.cells = [y0, y1, y2]) := ⟨_, _, _, (rfl : y.cells = _)⟩
  have K6x : Hid (∀ u, Below w.heap.size w u → Calls Try.prog 6 #[.agg #[x0, x1, x2]] u fun r w' => IsB r ∧ Below u.heap.size u w') := fun u hu => by
    have h := large_any _ x u (HXI.out u hu) (Nat.le_refl _)
    rw [hxc.out] at h
    exact h
  have K6y : Hid (∀ u, Below w.heap.size w u → Calls Try.prog 6 #[.agg #[y0, y1, y2]] u fun r w' => IsB r ∧ Below u.heap.size u w') := fun u hu => by
    have h := large_any _ y u (HYI.out u hu) (Nat.le_refl _)
    rw [hyc.out] at h
    exact h
  rw [hxc.out, hyc.out]
  go_enter Try.func5, Try.ntmps5
  go_wp2_with (first
    | ((with_reducible show wpList _ _ _ _ _ _); refine wpList_box_at rfl 25 (.tmp 0) rfl [x0, x1, x2] rfl ?_; intro w1 hA1 hb1 hs1; clear hs1)
    | ((with_reducible show wpList _ _ _ _ _ _); refine wpList_box_at rfl 25 (.tmp 1) rfl [y0, y1, y2] rfl ?_; intro w2 hA2 hb2 hs2; clear hs2; refine Hid.out ?_))
  refine hidU ?_
  have hB2 : Below w.heap.size w w2 := hb1.trans (hb2.mono hb1.size)
  have hA12 := hA1.below hb2
  have l12 := hA2.lt
  clear hA1 hb1 hb2
  go_wp2_with (first
    | (go_at_call 4; refine (K4.out _).mono ?_; rintro _ w3 ⟨rfl, hb3⟩; refine Hid.out ?_))
  refine hidU ?_
  have hB3 := hB2.trans (hb3.mono hB2.size)
  have hA13 := hA12.below hb3
  have hA23 := hA2.below hb3
  clear hA12 hA2 hb3 hB2 K4
  go_wp2_with (first
    | ((with_reducible show wpList _ _ _ _ _ _); refine wpList_load_at (P := Try.prog) rfl 25 (.tmp 3) rfl w.heap.size rfl 25 [x0, x1, x2] hA13 _ Try.underlying25 rfl i25 ?_)
    | (go_at_call 6; refine (K6x.out _ hB3).mono ?_; rintro _ w4 ⟨⟨l1, rfl⟩, hb4⟩; refine Hid.out ?_))
  refine hidU ?_
  have hB4 := hB3.trans (hb4.mono hB3.size)
  have hA14 := hA13.below hb4
  have hA24 := hA23.below hb4
  clear hA13 hA23 hb4 hB3 K6x
  have s0 : w4.cell? ⟨w1.heap.size, 0, none⟩ = some y0 := by rw [(hA24).cell]; rfl
  have s1 : w4.cell? ⟨w1.heap.size, 1, none⟩ = some y1 := by rw [(hA24).cell]; rfl
  have s2 : w4.cell? ⟨w1.heap.size, 2, none⟩ = some y2 := by rw [(hA24).cell]; rfl
  cases l1 with
  | true =>
    clear hA14 hA24
    go_wp2
    go_ret
    exact ⟨rfl, hB4⟩
  | false =>
    go_wp2_with (first
      | (go_at_call 6; refine (K6y.out _ hB4).mono ?_; rintro _ w5 ⟨⟨l2, rfl⟩, hb5⟩; refine Hid.out ?_))
    refine hidU ?_
    have hB5 := hB4.trans (hb5.mono hB4.size)
    have hA15 := hA14.below hb5
    have hA25 := hA24.below hb5
    clear hA14 hA24 hb5 hB4 K6y s0 s1 s2
    cases l2 with
    | true =>
      clear hA15 hA25
      go_wp2
      go_ret
      exact ⟨rfl, hB5⟩
    | false =>
      by_cases hbig : 20000 < nb
      · have hbig' : decide ((20000 : Int) < (nb : Int)) = true := decide_eq_true (by omega)
        clear hbig hA15 hA25
        go_wp2
        go_ret
        exact ⟨rfl, hB5⟩
      · have hbig' : decide ((20000 : Int) < (nb : Int)) = false := decide_eq_false (by omega)
        clear hbig
        have HS5 : Hid (Bs w w1.heap.size [x0, x1, x2] [y0, y1, y2] w5) := ⟨hB5, hA15, hA25⟩
        clear hA15 hA25 hB5
        obtain ⟨k1, hkk⟩ : ∃ k, Hid (k = checkC x.cd) := ⟨_, (rfl : checkC x.cd = _)⟩
        have hk1' : ((k1 : Int) == 0) = false := by rw [beq_eq_false_iff_ne, hkk.out]; omega
        have K16x : Hid (∀ u, Below w.heap.size w u → Calls Try.prog 16 #[.agg #[x0, x1, x2]] u fun e w' => e = .returned (.tuple #[.slice none 0 0, .int .i64 (k1 : Int)]) ∧ Below u.heap.size u w') := fun u hu => by
          have h := bytes_no _ x u (HXI.out u hu) (Nat.le_refl _) hk1
          rw [hxc.out, ← hkk.out] at h
          exact h
        have K16y : Hid (∀ u, Below w.heap.size w u → Calls Try.prog 16 #[.agg #[y0, y1, y2]] u fun e w' => (∃ v k, e = .returned (.tuple #[v, .int .i64 k])) ∧ Below u.heap.size u w') := fun u hu => by
          have h := bytes_some _ y u (HYI.out u hu) (Nat.le_refl _)
          rw [hyc.out] at h
          exact h
        clear hk1
        go_wp2_with (first
          | ((with_reducible show wpList _ _ _ _ _ _); refine wpList_load_at (P := Try.prog) rfl 25 (.tmp 3) rfl w.heap.size rfl 25 [x0, x1, x2] HS5.out.2.1 _ Try.underlying25 rfl i25 ?_)
          | (go_at_call 16; refine (K16x.out _ HS5.out.1).mono ?_; rintro _ w6 ⟨rfl, hb6⟩; refine Hid.out ?_))
        refine hidU ?_
        have HS6 : Hid (Bs w w1.heap.size [x0, x1, x2] [y0, y1, y2] w6) := HS5.out.go hb6
        clear hb6 HS5 K16x
        go_wp2_with (first
          | ((with_reducible show wpList _ _ _ _ _ _); refine wpList_load_at (P := Try.prog) rfl 25 (.tmp 4) rfl w1.heap.size rfl 25 [y0, y1, y2] HS6.out.2.2 _ Try.underlying25 rfl i25 ?_)
          | (go_at_call 16; refine (K16y.out _ HS6.out.1).mono ?_; rintro _ w7 ⟨⟨v7, k7, rfl⟩, hb7⟩; refine Hid.out ?_))
        refine hidU ?_
        have hB7 : Below w.heap.size w w7 := (HS6.out.go hb7).1
        clear hb7 HS6 K16y
        cases hrd : readC bs with
        | none =>
          have QR := read_no ab nb cb bs hnb.out w7 (HRow.out.below hB7) hcb hlb hrd
          have HQR : Hid (Calls Try.prog 13 #[.slice ab nb cb] w7 fun e w' => e = .returned (.tuple #[.agg #[.slice none 0 0, .int .i64 0, .slice none 0 0], .int .i64 4]) ∧ Below w7.heap.size w7 w') := QR
          clear QR hrd
          go_wp2_with (first
            | (go_at_call 13; refine HQR.out.mono ?_; rintro _ t1 ⟨rfl, ht1⟩)
            | ((with_reducible show wpList _ _ _ _ _ _); refine wpList_alloc_at (o := { dst := some 18, .. }) rfl 25 rfl _ 3 z25 ?_; intro t2 tA2 tb2 ts2; clear ts2)
            | ((with_reducible show wpList _ _ _ _ _ _); refine wpList_store_at (P := Try.prog) rfl 25 (.tmp 18) (.tmp 108) rfl t1.heap.size [.slice none 0 0, .int .i64 0, .slice none 0 0] rfl rfl 25 _ tA2 i25 rfl (CT.one ⟨none, 0, [], 0, none, 0, []⟩) ?_; intro t3 tA3 tb3 ts3; clear ts3; refine Hid.out ?_))
          refine hidU ?_
          have hT := hB7.trans (ht1.mono hB7.size)
          have hT2 := hT.trans (tb2.mono hT.size)
          have hT3 := tb3.below hT2 hT.size hT2.size
          clear tA2 tA3 tb2 tb3 ht1 hT hT2 HQR
          go_wp2
          go_ret
          exact ⟨rfl, hT3⟩
        | some cd2 =>
          have QR := read_yes ab nb cb bs hnb.out w7 (HRow.out.below hB7) hcb hlb cd2 hrd
          have HQR : Hid (Calls Try.prog 13 #[.slice ab nb cb] w7 fun e w' => (∃ y0 y1 y2, e = .returned (.tuple #[.agg #[y0, y1, y2], .int .i64 0]) ∧ ∃ y : CT, y.cells = [y0, y1, y2] ∧ y.cd = cd2 ∧ y.In w'.heap.size w') ∧ Below w7.heap.size w7 w') := QR
          have HRD : Hid (encC cd2 = bs ∧ checkC cd2 = 0) := ⟨(enc_read hrd).1, (enc_read hrd).2.1⟩
          clear QR hrd
          go_wp2_with (first
            | (go_at_call 13; refine HQR.out.mono ?_; rintro _ t1 ⟨⟨m0, m1, m2, rfl, hM⟩, ht1⟩)
            | ((with_reducible show wpList _ _ _ _ _ _); refine wpList_alloc_at (o := { dst := some 18, .. }) rfl 25 rfl _ 3 z25 ?_; intro t2 tA2 tb2 ts2; clear ts2; refine Hid.out ?_))
          refine hidU ?_
          have HM : Hid (∃ y : CT, y.cells = [m0, m1, m2] ∧ y.cd = cd2 ∧ y.In t1.heap.size t1) := hM
          have hm1 : ∀ x ∈ [m0, m1, m2], x.oneCell' = true := by
            obtain ⟨y, hy, _⟩ := hM
            rw [← hy]
            exact y.one
          clear hM HQR
          go_wp2_with (first
            | ((with_reducible show wpList _ _ _ _ _ _); refine wpList_store_at (P := Try.prog) rfl 25 (.tmp 18) (.tmp 108) rfl t1.heap.size [m0, m1, m2] rfl rfl 25 _ tA2 i25 rfl hm1 ?_; intro t3 tA3 tb3 ts3; clear ts3; refine Hid.out ?_))
          refine hidU ?_
          have hT := hB7.trans (ht1.mono hB7.size)
          have hT2 := hT.trans (tb2.mono hT.size)
          have hT3 := tb3.below hT2 hT.size hT2.size
          have Q16 : Hid (Calls Try.prog 16 #[.agg #[m0, m1, m2]] t3 fun e w' => (∃ g cap, e = .returned (.tuple #[.slice (some ⟨g, 0, none⟩) nb cap, .int .i64 0]) ∧ Row w' (some ⟨g, 0, none⟩) bs) ∧ Below t3.heap.size t3 w') := by
            obtain ⟨y, h1, h2, h3⟩ := HM.out
            have hI : y.In t3.heap.size t3 := (CT.In.old h3 (fun k hk => by rw [tb3.block k (Nat.lt_of_lt_of_le hk tb2.size) (by omega), tb2.block k hk])).up (Nat.le_trans tb2.size tb3.size)
            have h := bytes_yes _ y t3 hI (Nat.le_refl _) (by rw [h2]; exact HRD.out.2)
            rw [h1, h2, HRD.out.1, hnb.out] at h
            refine h.mono ?_
            rintro e w' ⟨⟨g, cap, he, _, _, _, hcell⟩, hb⟩
            exact ⟨⟨g, cap, he, rowCells (by rw [hnb.out]; exact hcell)⟩, hb⟩
          clear tA2 tb2 tb3 ht1 hT hT2 HM
          go_wp2_with (first
            | ((with_reducible show wpList _ _ _ _ _ _); refine wpList_load_at (P := Try.prog) rfl 25 (.tmp 18) rfl t1.heap.size rfl 25 [m0, m1, m2] tA3 _ Try.underlying25 rfl i25 ?_)
            | (go_at_call 16; refine Q16.out.mono ?_; rintro _ t4 ⟨⟨g4, cap4, rfl, hrow4⟩, ht4⟩; refine Hid.out ?_))
          refine hidU ?_
          have hT4 := hT3.trans (ht4.mono hT3.size)
          have QS : Hid (Calls Try.prog 18 #[.slice (some ⟨g4, 0, none⟩) nb cap4, .slice ab nb cb] t4 fun e w' => e = .returned (.bool true) ∧ w' = t4) := by
            have h := same_any (some ⟨g4, 0, none⟩) ab cap4 cb bs bs t4 hrow4 (HRow.out.below hT4)
            rw [hnb.out, beq_self_eq_true] at h
            exact h
          clear tA3 Q16 hrow4 ht4 hT3
          go_wp2_with (first
            | (go_at_call 18; refine QS.out.mono ?_; rintro _ t5 ⟨rfl, rfl⟩))
          go_ret
          exact ⟨rfl, hT4⟩



end Go.Proofs.Ytefklmckkigllaa

/-! text BkYn -/
namespace Go.Proofs.Ytefklmckkigllaa
open Go.RowKit
set_option linter.unusedVariables false

set_option maxRecDepth 100000 in
set_option maxHeartbeats 12800000 in
theorem back_yn (B : Nat) (x y : CT) (ab : Option Addr) (cb : Nat) (bs : List UInt8) (w : World) (hx : x.In B w) (hy : y.In B w) (hBw : B ≤ w.heap.size) (hrow : Row w ab bs) (hcb : bs.length ≤ cb) (hlb : bs.length ≤ 1099511627776) (hk1 : checkC x.cd = 0) (hk2 : checkC y.cd ≠ 0) :
    Calls Try.prog 5 #[.agg x.cells.toArray, .agg y.cells.toArray, .slice ab bs.length cb] w fun e w' => e = .returned (.bool true) ∧ Below w.heap.size w w' := by
  obtain ⟨nb, hnb⟩ : ∃ n, Hid (bs.length = n) := ⟨_, (rfl : bs.length = _)⟩
  rw [hnb.out] at hcb hlb ⊢
  have HRow : Hid (Row w ab bs) := hrow
  have HXI : Hid (∀ u, Below w.heap.size w u → x.In u.heap.size u) := fun u hu => (hx.old (Old.of_below hu hBw)).up (Nat.le_trans hBw hu.size)
  have HYI : Hid (∀ u, Below w.heap.size w u → y.In u.heap.size u) := fun u hu => (hy.old (Old.of_below hu hBw)).up (Nat.le_trans hBw hu.size)
  have HOK : Hid (OkC x.cd ∧ OkC y.cd) := ⟨ok_of hx, ok_of hy⟩
  clear hrow hx hy
  have K4 : Hid (∀ u, Calls Try.prog 4 #[] u fun e w' => e = .returned (.bool true) ∧ Below u.heap.size u w') := known_any
  obtain ⟨x0, x1, x2, hxc⟩ : ∃ x0 x1 x2, Hid (x.cells = [x0, x1, x2]) := ⟨_, _, _, (rfl : x.cells = _)⟩
  obtain ⟨y0, y1, y2, hyc⟩ : ∃ y0 y1 y2, Hid (y.cells = [y0, y1, y2]) := ⟨_, _, _, (rfl : y.cells = _)⟩
  have K6x : Hid (∀ u, Below w.heap.size w u → Calls Try.prog 6 #[.agg #[x0, x1, x2]] u fun r w' => IsB r ∧ Below u.heap.size u w') := fun u hu => by
    have h := large_any _ x u (HXI.out u hu) (Nat.le_refl _)
    rw [hxc.out] at h
    exact h
  have K6y : Hid (∀ u, Below w.heap.size w u → Calls Try.prog 6 #[.agg #[y0, y1, y2]] u fun r w' => IsB r ∧ Below u.heap.size u w') := fun u hu => by
    have h := large_any _ y u (HYI.out u hu) (Nat.le_refl _)
    rw [hyc.out] at h
    exact h
  rw [hxc.out, hyc.out]
  go_enter Try.func5, Try.ntmps5
  go_wp2_with (first
    | ((with_reducible show wpList _ _ _ _ _ _); refine wpList_box_at rfl 25 (.tmp 0) rfl [x0, x1, x2] rfl ?_; intro w1 hA1 hb1 hs1; clear hs1)
    | ((with_reducible show wpList _ _ _ _ _ _); refine wpList_box_at rfl 25 (.tmp 1) rfl [y0, y1, y2] rfl ?_; intro w2 hA2 hb2 hs2; clear hs2; refine Hid.out ?_))
  refine hidU ?_
  have hB2 : Below w.heap.size w w2 := hb1.trans (hb2.mono hb1.size)
  have hA12 := hA1.below hb2
  have l12 := hA2.lt
  clear hA1 hb1 hb2
  go_wp2_with (first
    | (go_at_call 4; refine (K4.out _).mono ?_; rintro _ w3 ⟨rfl, hb3⟩; refine Hid.out ?_))
  refine hidU ?_
  have hB3 := hB2.trans (hb3.mono hB2.size)
  have hA13 := hA12.below hb3
  have hA23 := hA2.below hb3
  clear hA12 hA2 hb3 hB2 K4
  go_wp2_with (first
    | ((with_reducible show wpList _ _ _ _ _ _); refine wpList_load_at (P := Try.prog) rfl 25 (.tmp 3) rfl w.heap.size rfl 25 [x0, x1, x2] hA13 _ Try.underlying25 rfl i25 ?_)
    | (go_at_call 6; refine (K6x.out _ hB3).mono ?_; rintro _ w4 ⟨⟨l1, rfl⟩, hb4⟩; refine Hid.out ?_))
  refine hidU ?_
  have hB4 := hB3.trans (hb4.mono hB3.size)
  have hA14 := hA13.below hb4
  have hA24 := hA23.below hb4
  clear hA13 hA23 hb4 hB3 K6x
  have s0 : w4.cell? ⟨w1.heap.size, 0, none⟩ = some y0 := by rw [(hA24).cell]; rfl
  have s1 : w4.cell? ⟨w1.heap.size, 1, none⟩ = some y1 := by rw [(hA24).cell]; rfl
  have s2 : w4.cell? ⟨w1.heap.size, 2, none⟩ = some y2 := by rw [(hA24).cell]; rfl
  cases l1 with
  | true =>
    clear hA14 hA24
    go_wp2
    go_ret
    exact ⟨rfl, hB4⟩
  | false =>
    go_wp2_with (first
      | (go_at_call 6; refine (K6y.out _ hB4).mono ?_; rintro _ w5 ⟨⟨l2, rfl⟩, hb5⟩; refine Hid.out ?_))
    refine hidU ?_
    have hB5 := hB4.trans (hb5.mono hB4.size)
    have hA15 := hA14.below hb5
    have hA25 := hA24.below hb5
    clear hA14 hA24 hb5 hB4 K6y s0 s1 s2
    cases l2 with
    | true =>
      clear hA15 hA25
      go_wp2
      go_ret
      exact ⟨rfl, hB5⟩
    | false =>
      by_cases hbig : 20000 < nb
      · have hbig' : decide ((20000 : Int) < (nb : Int)) = true := decide_eq_true (by omega)
        clear hbig hA15 hA25
        go_wp2
        go_ret
        exact ⟨rfl, hB5⟩
      · have hbig' : decide ((20000 : Int) < (nb : Int)) = false := decide_eq_false (by omega)
        clear hbig
        have HS5 : Hid (Bs w w1.heap.size [x0, x1, x2] [y0, y1, y2] w5) := ⟨hB5, hA15, hA25⟩
        clear hA15 hA25 hB5
        obtain ⟨E, hE⟩ : ∃ E, Hid (E = encC x.cd) := ⟨_, (rfl : encC x.cd = _)⟩
        obtain ⟨n1, hn1⟩ : ∃ n, Hid (E.length = n) := ⟨_, (rfl : E.length = _)⟩
        have hn1p : 0 < n1 := by rw [← hn1.out, hE.out]; unfold encC encVs; simp
        have hn1l : n1 ≤ 1476530700 := by rw [← hn1.out, hE.out]; exact encC_len (small_of (check_zero hk1).1)
        have hn1l : n1 + 1 ≤ 1099511627776 := by omega
        have hn1k : Hid (n1 + 1 ≤ 1099511627776) := hn1l
        obtain ⟨m1, hm1⟩ : ∃ m, n1 = m + 1 := ⟨n1 - 1, by omega⟩
        have hn1l : n1 ≤ 1099511627776 := by omega
        have HM1 : Hid (n1 = m1 + 1) := hm1
        clear hm1
        have hn1z : ((n1 : Int) == 0) = false := by rw [beq_eq_false_iff_ne]; omega
        have K16x : Hid (∀ u, Below w.heap.size w u → Calls Try.prog 16 #[.agg #[x0, x1, x2]] u fun e w' => (∃ g cap, e = .returned (.tuple #[.slice (some ⟨g, 0, none⟩) n1 cap, .int .i64 0]) ∧ n1 ≤ cap ∧ Row w' (some ⟨g, 0, none⟩) E) ∧ Below u.heap.size u w') := fun u hu => by
          have h := bytes_yes _ x u (HXI.out u hu) (Nat.le_refl _) hk1
          rw [hxc.out, ← hE.out, hn1.out] at h
          refine h.mono ?_
          rintro e w' ⟨⟨g, cap, he, hc, _, _, hcell⟩, hb⟩
          exact ⟨⟨g, cap, he, hc, rowCells (by rw [hn1.out]; exact hcell)⟩, hb⟩
        have HK1 : Hid (checkC x.cd = 0) := hk1
        clear hk1
        go_wp2_with (first
          | ((with_reducible show wpList _ _ _ _ _ _); refine wpList_load_at (P := Try.prog) rfl 25 (.tmp 3) rfl w.heap.size rfl 25 [x0, x1, x2] HS5.out.2.1 _ Try.underlying25 rfl i25 ?_)
          | (go_at_call 16; refine (K16x.out _ HS5.out.1).mono ?_; rintro _ w6 ⟨⟨g1, cap1, rfl, hcap1, hrow1⟩, hb6⟩; refine Hid.out ?_))
        refine hidU ?_
        have HS6 : Hid (Bs w w1.heap.size [x0, x1, x2] [y0, y1, y2] w6) := HS5.out.go hb6
        have HE6 : Hid (Row w6 (some ⟨g1, 0, none⟩) E) := hrow1
        clear hb6 HS5 K16x hrow1
        obtain ⟨k2, hkk⟩ : ∃ k, Hid (k = checkC y.cd) := ⟨_, (rfl : checkC y.cd = _)⟩
        have hk2' : ((k2 : Int) == 0) = false := by rw [beq_eq_false_iff_ne, hkk.out]; omega
        have K16y : Hid (∀ u, Below w.heap.size w u → Calls Try.prog 16 #[.agg #[y0, y1, y2]] u fun e w' => e = .returned (.tuple #[.slice none 0 0, .int .i64 (k2 : Int)]) ∧ Below u.heap.size u w') := fun u hu => by
          have h := bytes_no _ y u (HYI.out u hu) (Nat.le_refl _) hk2
          rw [hyc.out, ← hkk.out] at h
          exact h
        clear hk2
        go_wp2_with (first
          | ((with_reducible show wpList _ _ _ _ _ _); refine wpList_load_at (P := Try.prog) rfl 25 (.tmp 4) rfl w1.heap.size rfl 25 [y0, y1, y2] HS6.out.2.2 _ Try.underlying25 rfl i25 ?_)
          | (go_at_call 16; refine (K16y.out _ HS6.out.1).mono ?_; rintro _ w7 ⟨rfl, hb7⟩; refine Hid.out ?_))
        refine hidU ?_
        have HS7 : Hid (Bs w w1.heap.size [x0, x1, x2] [y0, y1, y2] w7) := HS6.out.go hb7
        have HE7 : Hid (Row w7 (some ⟨g1, 0, none⟩) E) := HE6.out.below hb7
        clear hb7 K16y HS6 HE6
        have Q9 : Hid (Calls Try.prog 13 #[.slice (some ⟨g1, 0, none⟩) n1 cap1] w7 fun e w' => (∃ y0 y1 y2, e = .returned (.tuple #[.agg #[y0, y1, y2], .int .i64 0]) ∧ ∃ y : CT, y.cells = [y0, y1, y2] ∧ y.cd = x.cd ∧ y.In w'.heap.size w') ∧ Below w7.heap.size w7 w') := read_yes _ n1 cap1 E hn1.out w7 HE7.out hcap1 hn1l x.cd (by rw [hE.out]; exact read_enc HK1.out HOK.out.1)
        go_wp2_with (first
            | (go_at_call 13; refine Q9.out.mono ?_; rintro _ w8 ⟨⟨r0, r1, r2, rfl, hM⟩, hb8⟩; refine Hid.out ?_))
        refine hidU ?_
        have HM : Hid (∃ y : CT, y.cells = [r0, r1, r2] ∧ y.cd = x.cd ∧ y.In w8.heap.size w8) := hM
        have hr1 : ∀ x ∈ [r0, r1, r2], x.oneCell' = true := by
          obtain ⟨y, hy, _⟩ := hM
          rw [← hy]
          exact y.one
        clear hM Q9
        go_wp2_with (first
            | ((with_reducible show wpList _ _ _ _ _ _); refine wpList_alloc_at (o := { dst := some 12, .. }) rfl 25 rfl _ 3 z25 ?_; intro w9 Aw9 bw9 sw9; clear sw9)
            | ((with_reducible show wpList _ _ _ _ _ _); refine wpList_store_at (P := Try.prog) rfl 25 (.tmp 12) (.tmp 57) rfl w8.heap.size [r0, r1, r2] rfl rfl 25 _ Aw9 i25 rfl hr1 ?_; intro w10 Aw10 bw10 sw10; clear sw10; refine Hid.out ?_))
        refine hidU ?_
        have Bw10 : Below w8.heap.size w8 w10 := bw10.below bw9 (Nat.le_refl _) bw9.size
        have HS10 : Hid (Bs w w1.heap.size [x0, x1, x2] [y0, y1, y2] w10) := (HS7.out.go hb8).go Bw10
        have HE10 : Hid (Row w10 (some ⟨g1, 0, none⟩) E) := (HE7.out.below hb8).below Bw10
        have HR10 : Hid (At 25 w10 w8.heap.size [r0, r1, r2]) := Aw10
        have HI10 : Hid (∃ y : CT, y.cells = [r0, r1, r2] ∧ y.cd = x.cd ∧ y.In w10.heap.size w10) := by
          obtain ⟨y, h1, h2, h3⟩ := HM.out
          exact ⟨y, h1, h2, (CT.In.old h3 (Old.of_below Bw10 (Nat.le_refl _))).up Bw10.size⟩
        clear Aw9 bw9 Aw10 bw10 Bw10 hb8 HM hr1 HS7 HE7
        have Q10 : Hid (Calls Try.prog 13 #[.slice (some ⟨g1, 0, none⟩) m1 cap1] w10 fun e w' => e = .returned (.tuple #[.agg #[.slice none 0 0, .int .i64 0, .slice none 0 0], .int .i64 4]) ∧ Below w10.heap.size w10 w') := read_no _ m1 cap1 (E.take m1) (by rw [List.length_take, hn1.out]; have := HM1.out; omega) w10 (row_take HE10.out m1) (by have := HM1.out; omega) (by have := HM1.out; omega) (by rw [hE.out]; exact read_cut HK1.out HOK.out.1 m1 (by rw [← hE.out, hn1.out]; have := HM1.out; omega))
        have hsl := fun u => run_slice_to u (some ⟨g1, 0, none⟩) n1 cap1 m1 (m1 : Int) rfl (by have := HM1.out; omega)
        have hwm : IntKind.i64.wrap ((n1 : Int) - 1) = (m1 : Int) := by have := HM1.out; rw [IntKind.wrap_i64]; omega
        go_wp2_with (first
            | (go_at_call 13; refine Q10.out.mono ?_; rintro _ w11 ⟨rfl, hb11⟩)
            | ((with_reducible show wpList _ _ _ _ _ _); refine wpList_alloc_at (o := { dst := some 14, .. }) rfl 25 rfl _ 3 z25 ?_; intro w12 Aw12 bw12 sw12; clear sw12)
            | ((with_reducible show wpList _ _ _ _ _ _); refine wpList_store_at (P := Try.prog) rfl 25 (.tmp 14) (.tmp 66) rfl w11.heap.size [.slice none 0 0, .int .i64 0, .slice none 0 0] rfl rfl 25 _ Aw12 i25 rfl (CT.one ⟨none, 0, [], 0, none, 0, []⟩) ?_; intro w13 Aw13 bw13 sw13; clear sw13; refine Hid.out ?_))
        refine hidU ?_
        have Bw13 : Below w11.heap.size w11 w13 := bw13.below bw12 (Nat.le_refl _) bw12.size
        have HS13 : Hid (Bs w w1.heap.size [x0, x1, x2] [y0, y1, y2] w13) := (HS10.out.go hb11).go Bw13
        have HE13 : Hid (Row w13 (some ⟨g1, 0, none⟩) E) := (HE10.out.below hb11).below Bw13
        have HB13 : Hid (Below w10.heap.size w10 w13) := hb11.trans (Bw13.mono hb11.size)
        clear Aw12 bw12 Aw13 bw13 Bw13 hb11 HS10 HE10 Q10 hsl hwm
        have Q17 : Hid (Calls Try.prog 17 #[.slice (some ⟨g1, 0, none⟩) n1 cap1] w13 fun e w' => ∃ v, e = .returned v ∧ Own w13.heap.size w' v E ∧ Below w13.heap.size w13 w') := copyB_any g1 n1 cap1 E w13 hn1.out (rowCells' HE13.out hn1.out hn1p) hn1l
        go_wp2_with (first
            | (go_at_call 17; refine Q17.out.mono ?_; rintro _ w14 ⟨v14, rfl, hO14, hb14⟩; refine Hid.out ?_))
        refine hidU ?_
        have HO14 : Hid (Own w13.heap.size w14 v14 E ∧ E.length ≤ 1099511627776) := ⟨hO14, by rw [hn1.out]; exact hn1l⟩
        have hs14 := hb14.size
        clear Q17 hO14
        go_wp2_with (first
            | ((with_reducible show wpList _ _ _ _ _ _); refine app1 (.tmp 70) (.tmp 71) 0 0 w13.heap.size _ E rfl rfl rfl rfl HO14.out.1 rfl HO14.out.2 hs14 ?_; intro v15 w15 hO15 hb15; refine Hid.out ?_))
        refine hidU ?_
        obtain ⟨a15, c15, rfl, hc15, _, hr15⟩ := hO15.row
        obtain ⟨n3, hn3⟩ : ∃ n, Hid ((E ++ ([0] : List UInt8)).length = n) := ⟨_, (rfl : (E ++ ([0] : List UInt8)).length = _)⟩
        have hn3l : n3 ≤ 1099511627776 := by rw [← hn3.out, List.length_append, hn1.out]; show n1 + 1 ≤ _; exact hn1k.out
        rw [hn3.out] at hc15 ⊢
        have hb15' : Below w13.heap.size w13 w15 := hb14.trans hb15
        have Q15 : Hid (Calls Try.prog 13 #[.slice a15 n3 c15] w15 fun e w' => e = .returned (.tuple #[.agg #[.slice none 0 0, .int .i64 0, .slice none 0 0], .int .i64 4]) ∧ Below w15.heap.size w15 w') := read_no _ n3 c15 (E ++ [0]) hn3.out w15 hr15 hc15 hn3l (by rw [hE.out]; exact read_more HK1.out HOK.out.1 0)
        clear HO14 hO15 hb14 hb15 hr15 hs14
        go_wp2_with (first
            | (go_at_call 13; refine Q15.out.mono ?_; rintro _ w16 ⟨rfl, hb16⟩)
            | ((with_reducible show wpList _ _ _ _ _ _); refine wpList_alloc_at (o := { dst := some 16, .. }) rfl 25 rfl _ 3 z25 ?_; intro w17 Aw17 bw17 sw17; clear sw17)
            | ((with_reducible show wpList _ _ _ _ _ _); refine wpList_store_at (P := Try.prog) rfl 25 (.tmp 16) (.tmp 74) rfl w16.heap.size [.slice none 0 0, .int .i64 0, .slice none 0 0] rfl rfl 25 _ Aw17 i25 rfl (CT.one ⟨none, 0, [], 0, none, 0, []⟩) ?_; intro w18 Aw18 bw18 sw18; clear sw18; refine Hid.out ?_))
        refine hidU ?_
        have Bw18 : Below w16.heap.size w16 w18 := bw18.below bw17 (Nat.le_refl _) bw17.size
        have hb18 : Below w13.heap.size w13 w18 := (hb15'.trans (hb16.mono hb15'.size)).trans (Bw18.mono (Nat.le_trans hb15'.size hb16.size))
        have HS18w : Hid (Bs w w1.heap.size [x0, x1, x2] [y0, y1, y2] w18) := HS13.out.go hb18
        have hb1018 : Below w10.heap.size w10 w18 := HB13.out.trans (hb18.mono HB13.out.size)
        have hR18 := HR10.out.below hb1018
        have HI18 : Hid (∃ y : CT, y.cells = [r0, r1, r2] ∧ y.cd = x.cd ∧ y.In w18.heap.size w18) := by
          obtain ⟨y, h1, h2, h3⟩ := HI10.out
          exact ⟨y, h1, h2, (CT.In.old h3 (Old.of_below hb1018 (Nat.le_refl _))).up hb1018.size⟩
        have HC1 : Hid (∀ u, Below w18.heap.size w18 u → Calls Try.prog 10 #[.agg #[r0, r1, r2], .agg #[x0, x1, x2]] u fun e w' => e = .returned (.bool true) ∧ Below u.heap.size u w') := fun u hu => by
          obtain ⟨y, h1, h2, h3⟩ := HI18.out
          have h := kitC_any u.heap.size y x u ((CT.In.old h3 (Old.of_below hu (Nat.le_refl _))).up hu.size) (HXI.out u (HS18w.out.1.trans (hu.mono HS18w.out.1.size))) (Nat.le_refl _)
          rw [h1, h2, hxc.out, decide_eq_true rfl] at h
          exact h
        have cx0 : w18.cell? ⟨w.heap.size, 0, none⟩ = some x0 := by rw [(HS18w.out.2.1).cell]; rfl
        have cx1 : w18.cell? ⟨w.heap.size, 1, none⟩ = some x1 := by rw [(HS18w.out.2.1).cell]; rfl
        have cx2 : w18.cell? ⟨w.heap.size, 2, none⟩ = some x2 := by rw [(HS18w.out.2.1).cell]; rfl
        have cy0 : w18.cell? ⟨w1.heap.size, 0, none⟩ = some y0 := by rw [(HS18w.out.2.2).cell]; rfl
        have cy1 : w18.cell? ⟨w1.heap.size, 1, none⟩ = some y1 := by rw [(HS18w.out.2.2).cell]; rfl
        have cy2 : w18.cell? ⟨w1.heap.size, 2, none⟩ = some y2 := by rw [(HS18w.out.2.2).cell]; rfl
        have cr0 : w18.cell? ⟨w8.heap.size, 0, none⟩ = some r0 := by rw [(hR18).cell]; rfl
        have cr1 : w18.cell? ⟨w8.heap.size, 1, none⟩ = some r1 := by rw [(hR18).cell]; rfl
        have cr2 : w18.cell? ⟨w8.heap.size, 2, none⟩ = some r2 := by rw [(hR18).cell]; rfl
        clear Aw17 bw17 Aw18 bw18 Bw18 hb16 hb15' hb18 hb1018 hR18 HS13 HE13 HB13 HR10 HI10 Q15 HI18 hc15 hn3l
        go_wp2_with fail
        have hS0 : Below w18.heap.size w18 w18.drew := Below.drew (Below.refl _ _)
        refine wp_region_held_drew (S := fun x => Below w18.heap.size w18 x) (by kernel_rfl) hS0 (fun _ => ?_)
        refine wpAnyH_take (i := 0) (oi := { dst := some 76, op := .move (.tmp 13), type := _, pos := _, after := _, guard := none }) (v := .int .i64 0) rfl (by kernel_rfl) (by kernel_rfl) (by kernel_rfl) (fun _ _ _ h => h) (Or.inl ⟨by rfl, ?_⟩) hS0 ?_
        · intro wS hSw
          go_simp
        simp only [Act.put, List.setIfInBounds_toArray, List.set_cons_zero, List.set_cons_succ]
        refine wpAnyH_take (i := 1) (oi := { dst := some 77, op := .binOp .neq 39 (.tmp 76) (.const (.int .i64 0)) 39, type := _, pos := _, after := _, guard := none }) (v := .bool false) rfl (by kernel_rfl) (by kernel_rfl) (by kernel_rfl) (fun _ _ _ h => h) (Or.inl ⟨by rfl, ?_⟩) hS0 ?_
        · intro wS hSw
          go_simp
        simp only [Act.put, List.setIfInBounds_toArray, List.set_cons_zero, List.set_cons_succ]
        refine wpAnyH_take (i := 2) (oi := { dst := some 78, op := .move (.tmp 77), type := _, pos := _, after := _, guard := none }) (v := .bool false) rfl (by kernel_rfl) (by kernel_rfl) (by kernel_rfl) (fun _ _ _ h => h) (Or.inl ⟨by rfl, ?_⟩) hS0 ?_
        · intro wS hSw
          go_simp
        simp only [Act.put, List.setIfInBounds_toArray, List.set_cons_zero, List.set_cons_succ]
        refine wpAnyH_take (i := 3) (oi := { dst := some 79, op := .load 25 (.tmp 12), type := _, pos := _, after := _, guard := some (2, false) }) (v := .agg #[r0, r1, r2]) rfl (by kernel_rfl) (by kernel_rfl) (by kernel_rfl) (fun _ _ _ h => h) (Or.inl ⟨by rfl, ?_⟩) hS0 ?_
        · intro wS hSw
          have z0 := (hSw.cell (lt_of_cell cr0)).trans cr0
          have z1 := (hSw.cell (lt_of_cell cr1)).trans cr1
          have z2 := (hSw.cell (lt_of_cell cr2)).trans cr2
          go_simp
        simp only [Act.put, List.setIfInBounds_toArray, List.set_cons_zero, List.set_cons_succ]
        refine wpAnyH_take (i := 4) (oi := { dst := some 80, op := .load 25 (.tmp 3), type := _, pos := _, after := _, guard := some (2, false) }) (v := .agg #[x0, x1, x2]) rfl (by kernel_rfl) (by kernel_rfl) (by kernel_rfl) (fun _ _ _ h => h) (Or.inl ⟨by rfl, ?_⟩) hS0 ?_
        · intro wS hSw
          have z0 := (hSw.cell (lt_of_cell cx0)).trans cx0
          have z1 := (hSw.cell (lt_of_cell cx1)).trans cx1
          have z2 := (hSw.cell (lt_of_cell cx2)).trans cx2
          go_simp
        simp only [Act.put, List.setIfInBounds_toArray, List.set_cons_zero, List.set_cons_succ]
        refine wpAnyH_ready (rs := [5]) (by kernel_rfl) (by simp) ?_
        refine AllReadyH.cons (o := { dst := some 81, op := .call { callee := .value (.func 10), args := #[.tmp 79, .tmp 80], argTypes := #[25, 25] }, type := _, pos := _, after := _, guard := some (2, false) }) rfl (fun K hK => ?_) AllReadyH.nil
        rw [if_pos (by rfl)]
        go_wp2_with (go_at_call 10; refine (HC1.out _ hS0).mono ?_; rintro e x1 ⟨rfl, hb1⟩)
        have hS1 := hS0.trans (hb1.mono hS0.size)
        refine hK.out _ _ hS1 (fun _ => ?_)
        clear hK K
        refine wpAnyH_take (i := 6) (oi := { dst := some 82, op := .unOp .not 4 (.tmp 81), type := _, pos := _, after := _, guard := some (2, false) }) (v := .bool false) rfl (by kernel_rfl) (by kernel_rfl) (by kernel_rfl) (fun _ _ _ h => h) (Or.inl ⟨by rfl, ?_⟩) hS1 ?_
        · intro wS hSw
          go_simp
        simp only [Act.put, List.setIfInBounds_toArray, List.set_cons_zero, List.set_cons_succ]
        refine wpAnyH_take (i := 7) (oi := { dst := some 83, op := .pick (.tmp 78) (.const (.bool true)) (.tmp 82), type := _, pos := _, after := _, guard := none }) (v := .bool false) rfl (by kernel_rfl) (by kernel_rfl) (by kernel_rfl) (fun _ _ _ h => h) (Or.inl ⟨by rfl, ?_⟩) hS1 ?_
        · intro wS hSw
          go_simp
        simp only [Act.put, List.setIfInBounds_toArray, List.set_cons_zero, List.set_cons_succ]
        refine wpAnyH_take (i := 8) (oi := { dst := some 84, op := .move (.tmp 83), type := _, pos := _, after := _, guard := none }) (v := .bool false) rfl (by kernel_rfl) (by kernel_rfl) (by kernel_rfl) (fun _ _ _ h => h) (Or.inl ⟨by rfl, ?_⟩) hS1 ?_
        · intro wS hSw
          go_simp
        simp only [Act.put, List.setIfInBounds_toArray, List.set_cons_zero, List.set_cons_succ]
        refine wpAnyH_take (i := 9) (oi := { dst := some 85, op := .move (.tmp 15), type := _, pos := _, after := _, guard := some (8, false) }) (v := .int .i64 4) rfl (by kernel_rfl) (by kernel_rfl) (by kernel_rfl) (fun _ _ _ h => h) (Or.inl ⟨by rfl, ?_⟩) hS1 ?_
        · intro wS hSw
          go_simp
        simp only [Act.put, List.setIfInBounds_toArray, List.set_cons_zero, List.set_cons_succ]
        refine wpAnyH_take (i := 10) (oi := { dst := some 86, op := .binOp .neq 39 (.tmp 85) (.const (.int .i64 4)) 39, type := _, pos := _, after := _, guard := some (8, false) }) (v := .bool false) rfl (by kernel_rfl) (by kernel_rfl) (by kernel_rfl) (fun _ _ _ h => h) (Or.inl ⟨by rfl, ?_⟩) hS1 ?_
        · intro wS hSw
          go_simp
        simp only [Act.put, List.setIfInBounds_toArray, List.set_cons_zero, List.set_cons_succ]
        refine wpAnyH_take (i := 11) (oi := { dst := some 87, op := .pick (.tmp 84) (.const (.bool true)) (.tmp 86), type := _, pos := _, after := _, guard := none }) (v := .bool false) rfl (by kernel_rfl) (by kernel_rfl) (by kernel_rfl) (fun _ _ _ h => h) (Or.inl ⟨by rfl, ?_⟩) hS1 ?_
        · intro wS hSw
          go_simp
        simp only [Act.put, List.setIfInBounds_toArray, List.set_cons_zero, List.set_cons_succ]
        refine wpAnyH_take (i := 12) (oi := { dst := some 88, op := .move (.tmp 87), type := _, pos := _, after := _, guard := none }) (v := .bool false) rfl (by kernel_rfl) (by kernel_rfl) (by kernel_rfl) (fun _ _ _ h => h) (Or.inl ⟨by rfl, ?_⟩) hS1 ?_
        · intro wS hSw
          go_simp
        simp only [Act.put, List.setIfInBounds_toArray, List.set_cons_zero, List.set_cons_succ]
        refine wpAnyH_take (i := 13) (oi := { dst := some 89, op := .move (.tmp 17), type := _, pos := _, after := _, guard := some (12, false) }) (v := .int .i64 4) rfl (by kernel_rfl) (by kernel_rfl) (by kernel_rfl) (fun _ _ _ h => h) (Or.inl ⟨by rfl, ?_⟩) hS1 ?_
        · intro wS hSw
          go_simp
        simp only [Act.put, List.setIfInBounds_toArray, List.set_cons_zero, List.set_cons_succ]
        refine wpAnyH_take (i := 14) (oi := { dst := some 90, op := .binOp .neq 39 (.tmp 89) (.const (.int .i64 4)) 39, type := _, pos := _, after := _, guard := some (12, false) }) (v := .bool false) rfl (by kernel_rfl) (by kernel_rfl) (by kernel_rfl) (fun _ _ _ h => h) (Or.inl ⟨by rfl, ?_⟩) hS1 ?_
        · intro wS hSw
          go_simp
        simp only [Act.put, List.setIfInBounds_toArray, List.set_cons_zero, List.set_cons_succ]
        refine wpAnyH_take (i := 15) (oi := { dst := some 91, op := .pick (.tmp 88) (.const (.bool true)) (.tmp 90), type := _, pos := _, after := _, guard := none }) (v := .bool false) rfl (by kernel_rfl) (by kernel_rfl) (by kernel_rfl) (fun _ _ _ h => h) (Or.inl ⟨by rfl, ?_⟩) hS1 ?_
        · intro wS hSw
          go_simp
        simp only [Act.put, List.setIfInBounds_toArray, List.set_cons_zero, List.set_cons_succ]
        refine wpAnyH_take (i := 16) (oi := { dst := some 92, op := .move (.tmp 91), type := _, pos := _, after := _, guard := none }) (v := .bool false) rfl (by kernel_rfl) (by kernel_rfl) (by kernel_rfl) (fun _ _ _ h => h) (Or.inl ⟨by rfl, ?_⟩) hS1 ?_
        · intro wS hSw
          go_simp
        simp only [Act.put, List.setIfInBounds_toArray, List.set_cons_zero, List.set_cons_succ]
        refine wpAnyH_take (i := 17) (oi := { dst := some 93, op := .move (.tmp 11), type := _, pos := _, after := _, guard := some (16, false) }) (v := .int .i64 (k2 : Int)) rfl (by kernel_rfl) (by kernel_rfl) (by kernel_rfl) (fun _ _ _ h => h) (Or.inl ⟨by rfl, ?_⟩) hS1 ?_
        · intro wS hSw
          go_simp
        simp only [Act.put, List.setIfInBounds_toArray, List.set_cons_zero, List.set_cons_succ]
        refine wpAnyH_take (i := 18) (oi := { dst := some 94, op := .binOp .eql 39 (.tmp 93) (.const (.int .i64 0)) 39, type := _, pos := _, after := _, guard := some (16, false) }) (v := .bool false) rfl (by kernel_rfl) (by kernel_rfl) (by kernel_rfl) (fun _ _ _ h => h) (Or.inl ⟨by rfl, ?_⟩) hS1 ?_
        · intro wS hSw
          go_simp
        simp only [Act.put, List.setIfInBounds_toArray, List.set_cons_zero, List.set_cons_succ]
        refine wpAnyH_take (i := 19) (oi := { dst := some 95, op := .move (.tmp 94), type := _, pos := _, after := _, guard := some (16, false) }) (v := .bool false) rfl (by kernel_rfl) (by kernel_rfl) (by kernel_rfl) (fun _ _ _ h => h) (Or.inl ⟨by rfl, ?_⟩) hS1 ?_
        · intro wS hSw
          go_simp
        simp only [Act.put, List.setIfInBounds_toArray, List.set_cons_zero, List.set_cons_succ]
        refine wpAnyH_take (i := 20) (oi := { dst := some 96, op := .move (.tmp 8), type := _, pos := _, after := _, guard := some (19, true) }) (v := undef) rfl (by kernel_rfl) (by kernel_rfl) (by kernel_rfl) (fun _ _ _ h => h) (Or.inr ⟨by rfl, rfl⟩) hS1 ?_
        simp only [Act.put, List.setIfInBounds_toArray, List.set_cons_zero, List.set_cons_succ]
        refine wpAnyH_take (i := 21) (oi := { dst := some 97, op := .move (.tmp 10), type := _, pos := _, after := _, guard := some (19, true) }) (v := undef) rfl (by kernel_rfl) (by kernel_rfl) (by kernel_rfl) (fun _ _ _ h => h) (Or.inr ⟨by rfl, rfl⟩) hS1 ?_
        simp only [Act.put, List.setIfInBounds_toArray, List.set_cons_zero, List.set_cons_succ]
        refine wpAnyH_take (i := 22) (oi := { dst := some 98, op := .call { callee := .value (.func 18), args := #[.tmp 96, .tmp 97], argTypes := #[42, 42] }, type := _, pos := _, after := _, guard := some (19, true) }) (v := undef) rfl (by kernel_rfl) (by kernel_rfl) (by kernel_rfl) (fun _ _ _ h => h) (Or.inr ⟨by rfl, rfl⟩) hS1 ?_
        simp only [Act.put, List.setIfInBounds_toArray, List.set_cons_zero, List.set_cons_succ]
        refine wpAnyH_take (i := 23) (oi := { dst := some 99, op := .load 25 (.tmp 3), type := _, pos := _, after := _, guard := some (19, true) }) (v := undef) rfl (by kernel_rfl) (by kernel_rfl) (by kernel_rfl) (fun _ _ _ h => h) (Or.inr ⟨by rfl, rfl⟩) hS1 ?_
        simp only [Act.put, List.setIfInBounds_toArray, List.set_cons_zero, List.set_cons_succ]
        refine wpAnyH_take (i := 24) (oi := { dst := some 100, op := .load 25 (.tmp 4), type := _, pos := _, after := _, guard := some (19, true) }) (v := undef) rfl (by kernel_rfl) (by kernel_rfl) (by kernel_rfl) (fun _ _ _ h => h) (Or.inr ⟨by rfl, rfl⟩) hS1 ?_
        simp only [Act.put, List.setIfInBounds_toArray, List.set_cons_zero, List.set_cons_succ]
        refine wpAnyH_take (i := 25) (oi := { dst := some 101, op := .call { callee := .value (.func 10), args := #[.tmp 99, .tmp 100], argTypes := #[25, 25] }, type := _, pos := _, after := _, guard := some (19, true) }) (v := undef) rfl (by kernel_rfl) (by kernel_rfl) (by kernel_rfl) (fun _ _ _ h => h) (Or.inr ⟨by rfl, rfl⟩) hS1 ?_
        simp only [Act.put, List.setIfInBounds_toArray, List.set_cons_zero, List.set_cons_succ]
        refine wpAnyH_take (i := 26) (oi := { dst := some 102, op := .binOp .neq 4 (.tmp 98) (.tmp 101) 4, type := _, pos := _, after := _, guard := some (19, true) }) (v := undef) rfl (by kernel_rfl) (by kernel_rfl) (by kernel_rfl) (fun _ _ _ h => h) (Or.inr ⟨by rfl, rfl⟩) hS1 ?_
        simp only [Act.put, List.setIfInBounds_toArray, List.set_cons_zero, List.set_cons_succ]
        refine wpAnyH_take (i := 27) (oi := { dst := some 103, op := .pick (.tmp 95) (.tmp 102) (.const (.bool false)), type := _, pos := _, after := _, guard := some (16, false) }) (v := .bool false) rfl (by kernel_rfl) (by kernel_rfl) (by kernel_rfl) (fun _ _ _ h => h) (Or.inl ⟨by rfl, ?_⟩) hS1 ?_
        · intro wS hSw
          go_simp
        simp only [Act.put, List.setIfInBounds_toArray, List.set_cons_zero, List.set_cons_succ]
        refine wpAnyH_take (i := 28) (oi := { dst := some 104, op := .pick (.tmp 92) (.const (.bool true)) (.tmp 103), type := _, pos := _, after := _, guard := none }) (v := .bool false) rfl (by kernel_rfl) (by kernel_rfl) (by kernel_rfl) (fun _ _ _ h => h) (Or.inl ⟨by rfl, ?_⟩) hS1 ?_
        · intro wS hSw
          go_simp
        simp only [Act.put, List.setIfInBounds_toArray, List.set_cons_zero, List.set_cons_succ]
        refine wpAnyH_done (by kernel_rfl) ?_ _
        have hBf : Below w.heap.size w _ := HS18w.out.1.trans (hS1.mono HS18w.out.1.size)
        clear cx0 cx1 cx2 cy0 cy1 cy2 cr0 cr1 cr2
        go_wp2_with fail
        cases hrd : readC bs with
        | none =>
          have QR := read_no ab nb cb bs hnb.out x1 (HRow.out.below hBf) hcb hlb hrd
          have HQR : Hid (Calls Try.prog 13 #[.slice ab nb cb] x1 fun e w' => e = .returned (.tuple #[.agg #[.slice none 0 0, .int .i64 0, .slice none 0 0], .int .i64 4]) ∧ Below x1.heap.size x1 w') := QR
          clear QR hrd
          go_wp2_with (first
            | (go_at_call 13; refine HQR.out.mono ?_; rintro _ t1 ⟨rfl, ht1⟩)
            | ((with_reducible show wpList _ _ _ _ _ _); refine wpList_alloc_at (o := { dst := some 18, .. }) rfl 25 rfl _ 3 z25 ?_; intro t2 tA2 tb2 ts2; clear ts2)
            | ((with_reducible show wpList _ _ _ _ _ _); refine wpList_store_at (P := Try.prog) rfl 25 (.tmp 18) (.tmp 108) rfl t1.heap.size [.slice none 0 0, .int .i64 0, .slice none 0 0] rfl rfl 25 _ tA2 i25 rfl (CT.one ⟨none, 0, [], 0, none, 0, []⟩) ?_; intro t3 tA3 tb3 ts3; clear ts3; refine Hid.out ?_))
          refine hidU ?_
          have hT := hBf.trans (ht1.mono hBf.size)
          have hT2 := hT.trans (tb2.mono hT.size)
          have hT3 := tb3.below hT2 hT.size hT2.size
          clear tA2 tA3 tb2 tb3 ht1 hT hT2 HQR
          go_wp2
          go_ret
          exact ⟨rfl, hT3⟩
        | some cd2 =>
          have QR := read_yes ab nb cb bs hnb.out x1 (HRow.out.below hBf) hcb hlb cd2 hrd
          have HQR : Hid (Calls Try.prog 13 #[.slice ab nb cb] x1 fun e w' => (∃ y0 y1 y2, e = .returned (.tuple #[.agg #[y0, y1, y2], .int .i64 0]) ∧ ∃ y : CT, y.cells = [y0, y1, y2] ∧ y.cd = cd2 ∧ y.In w'.heap.size w') ∧ Below x1.heap.size x1 w') := QR
          have HRD : Hid (encC cd2 = bs ∧ checkC cd2 = 0) := ⟨(enc_read hrd).1, (enc_read hrd).2.1⟩
          clear QR hrd
          go_wp2_with (first
            | (go_at_call 13; refine HQR.out.mono ?_; rintro _ t1 ⟨⟨m0, m1, m2, rfl, hM⟩, ht1⟩)
            | ((with_reducible show wpList _ _ _ _ _ _); refine wpList_alloc_at (o := { dst := some 18, .. }) rfl 25 rfl _ 3 z25 ?_; intro t2 tA2 tb2 ts2; clear ts2; refine Hid.out ?_))
          refine hidU ?_
          have HM : Hid (∃ y : CT, y.cells = [m0, m1, m2] ∧ y.cd = cd2 ∧ y.In t1.heap.size t1) := hM
          have hm1 : ∀ x ∈ [m0, m1, m2], x.oneCell' = true := by
            obtain ⟨y, hy, _⟩ := hM
            rw [← hy]
            exact y.one
          clear hM HQR
          go_wp2_with (first
            | ((with_reducible show wpList _ _ _ _ _ _); refine wpList_store_at (P := Try.prog) rfl 25 (.tmp 18) (.tmp 108) rfl t1.heap.size [m0, m1, m2] rfl rfl 25 _ tA2 i25 rfl hm1 ?_; intro t3 tA3 tb3 ts3; clear ts3; refine Hid.out ?_))
          refine hidU ?_
          have hT := hBf.trans (ht1.mono hBf.size)
          have hT2 := hT.trans (tb2.mono hT.size)
          have hT3 := tb3.below hT2 hT.size hT2.size
          have Q16 : Hid (Calls Try.prog 16 #[.agg #[m0, m1, m2]] t3 fun e w' => (∃ g cap, e = .returned (.tuple #[.slice (some ⟨g, 0, none⟩) nb cap, .int .i64 0]) ∧ Row w' (some ⟨g, 0, none⟩) bs) ∧ Below t3.heap.size t3 w') := by
            obtain ⟨y, h1, h2, h3⟩ := HM.out
            have hI : y.In t3.heap.size t3 := (CT.In.old h3 (fun k hk => by rw [tb3.block k (Nat.lt_of_lt_of_le hk tb2.size) (by omega), tb2.block k hk])).up (Nat.le_trans tb2.size tb3.size)
            have h := bytes_yes _ y t3 hI (Nat.le_refl _) (by rw [h2]; exact HRD.out.2)
            rw [h1, h2, HRD.out.1, hnb.out] at h
            refine h.mono ?_
            rintro e w' ⟨⟨g, cap, he, _, _, _, hcell⟩, hb⟩
            exact ⟨⟨g, cap, he, rowCells (by rw [hnb.out]; exact hcell)⟩, hb⟩
          clear tA2 tb2 tb3 ht1 hT hT2 HM
          go_wp2_with (first
            | ((with_reducible show wpList _ _ _ _ _ _); refine wpList_load_at (P := Try.prog) rfl 25 (.tmp 18) rfl t1.heap.size rfl 25 [m0, m1, m2] tA3 _ Try.underlying25 rfl i25 ?_)
            | (go_at_call 16; refine Q16.out.mono ?_; rintro _ t4 ⟨⟨g4, cap4, rfl, hrow4⟩, ht4⟩; refine Hid.out ?_))
          refine hidU ?_
          have hT4 := hT3.trans (ht4.mono hT3.size)
          have QS : Hid (Calls Try.prog 18 #[.slice (some ⟨g4, 0, none⟩) nb cap4, .slice ab nb cb] t4 fun e w' => e = .returned (.bool true) ∧ w' = t4) := by
            have h := same_any (some ⟨g4, 0, none⟩) ab cap4 cb bs bs t4 hrow4 (HRow.out.below hT4)
            rw [hnb.out, beq_self_eq_true] at h
            exact h
          clear tA3 Q16 hrow4 ht4 hT3
          go_wp2_with (first
            | (go_at_call 18; refine QS.out.mono ?_; rintro _ t5 ⟨rfl, rfl⟩))
          go_ret
          exact ⟨rfl, hT4⟩



end Go.Proofs.Ytefklmckkigllaa

/-! text BkYy -/
namespace Go.Proofs.Ytefklmckkigllaa
open Go.RowKit
set_option linter.unusedVariables false

set_option maxRecDepth 100000 in
set_option maxHeartbeats 12800000 in
theorem back_yy (B : Nat) (x y : CT) (ab : Option Addr) (cb : Nat) (bs : List UInt8) (w : World) (hx : x.In B w) (hy : y.In B w) (hBw : B ≤ w.heap.size) (hrow : Row w ab bs) (hcb : bs.length ≤ cb) (hlb : bs.length ≤ 1099511627776) (hk1 : checkC x.cd = 0) (hk2 : checkC y.cd = 0) :
    Calls Try.prog 5 #[.agg x.cells.toArray, .agg y.cells.toArray, .slice ab bs.length cb] w fun e w' => e = .returned (.bool true) ∧ Below w.heap.size w w' := by
  obtain ⟨nb, hnb⟩ : ∃ n, Hid (bs.length = n) := ⟨_, (rfl : bs.length = _)⟩
  rw [hnb.out] at hcb hlb ⊢
  have HRow : Hid (Row w ab bs) := hrow
  have HXI : Hid (∀ u, Below w.heap.size w u → x.In u.heap.size u) := fun u hu => (hx.old (Old.of_below hu hBw)).up (Nat.le_trans hBw hu.size)
  have HYI : Hid (∀ u, Below w.heap.size w u → y.In u.heap.size u) := fun u hu => (hy.old (Old.of_below hu hBw)).up (Nat.le_trans hBw hu.size)
  have HOK : Hid (OkC x.cd ∧ OkC y.cd) := ⟨ok_of hx, ok_of hy⟩
  clear hrow hx hy
  have K4 : Hid (∀ u, Calls Try.prog 4 #[] u fun e w' => e = .returned (.bool true) ∧ Below u.heap.size u w') := known_any
  obtain ⟨x0, x1, x2, hxc⟩ : ∃ x0 x1 x2, Hid (x.cells = [x0, x1, x2]) := ⟨_, _, _, (rfl : x.cells = _)⟩
  obtain ⟨y0, y1, y2, hyc⟩ : ∃ y0 y1 y2, Hid (y.cells = [y0, y1, y2]) := ⟨_, _, _, (rfl : y.cells = _)⟩
  have K6x : Hid (∀ u, Below w.heap.size w u → Calls Try.prog 6 #[.agg #[x0, x1, x2]] u fun r w' => IsB r ∧ Below u.heap.size u w') := fun u hu => by
    have h := large_any _ x u (HXI.out u hu) (Nat.le_refl _)
    rw [hxc.out] at h
    exact h
  have K6y : Hid (∀ u, Below w.heap.size w u → Calls Try.prog 6 #[.agg #[y0, y1, y2]] u fun r w' => IsB r ∧ Below u.heap.size u w') := fun u hu => by
    have h := large_any _ y u (HYI.out u hu) (Nat.le_refl _)
    rw [hyc.out] at h
    exact h
  rw [hxc.out, hyc.out]
  go_enter Try.func5, Try.ntmps5
  go_wp2_with (first
    | ((with_reducible show wpList _ _ _ _ _ _); refine wpList_box_at rfl 25 (.tmp 0) rfl [x0, x1, x2] rfl ?_; intro w1 hA1 hb1 hs1; clear hs1)
    | ((with_reducible show wpList _ _ _ _ _ _); refine wpList_box_at rfl 25 (.tmp 1) rfl [y0, y1, y2] rfl ?_; intro w2 hA2 hb2 hs2; clear hs2; refine Hid.out ?_))
  refine hidU ?_
  have hB2 : Below w.heap.size w w2 := hb1.trans (hb2.mono hb1.size)
  have hA12 := hA1.below hb2
  have l12 := hA2.lt
  clear hA1 hb1 hb2
  go_wp2_with (first
    | (go_at_call 4; refine (K4.out _).mono ?_; rintro _ w3 ⟨rfl, hb3⟩; refine Hid.out ?_))
  refine hidU ?_
  have hB3 := hB2.trans (hb3.mono hB2.size)
  have hA13 := hA12.below hb3
  have hA23 := hA2.below hb3
  clear hA12 hA2 hb3 hB2 K4
  go_wp2_with (first
    | ((with_reducible show wpList _ _ _ _ _ _); refine wpList_load_at (P := Try.prog) rfl 25 (.tmp 3) rfl w.heap.size rfl 25 [x0, x1, x2] hA13 _ Try.underlying25 rfl i25 ?_)
    | (go_at_call 6; refine (K6x.out _ hB3).mono ?_; rintro _ w4 ⟨⟨l1, rfl⟩, hb4⟩; refine Hid.out ?_))
  refine hidU ?_
  have hB4 := hB3.trans (hb4.mono hB3.size)
  have hA14 := hA13.below hb4
  have hA24 := hA23.below hb4
  clear hA13 hA23 hb4 hB3 K6x
  have s0 : w4.cell? ⟨w1.heap.size, 0, none⟩ = some y0 := by rw [(hA24).cell]; rfl
  have s1 : w4.cell? ⟨w1.heap.size, 1, none⟩ = some y1 := by rw [(hA24).cell]; rfl
  have s2 : w4.cell? ⟨w1.heap.size, 2, none⟩ = some y2 := by rw [(hA24).cell]; rfl
  cases l1 with
  | true =>
    clear hA14 hA24
    go_wp2
    go_ret
    exact ⟨rfl, hB4⟩
  | false =>
    go_wp2_with (first
      | (go_at_call 6; refine (K6y.out _ hB4).mono ?_; rintro _ w5 ⟨⟨l2, rfl⟩, hb5⟩; refine Hid.out ?_))
    refine hidU ?_
    have hB5 := hB4.trans (hb5.mono hB4.size)
    have hA15 := hA14.below hb5
    have hA25 := hA24.below hb5
    clear hA14 hA24 hb5 hB4 K6y s0 s1 s2
    cases l2 with
    | true =>
      clear hA15 hA25
      go_wp2
      go_ret
      exact ⟨rfl, hB5⟩
    | false =>
      by_cases hbig : 20000 < nb
      · have hbig' : decide ((20000 : Int) < (nb : Int)) = true := decide_eq_true (by omega)
        clear hbig hA15 hA25
        go_wp2
        go_ret
        exact ⟨rfl, hB5⟩
      · have hbig' : decide ((20000 : Int) < (nb : Int)) = false := decide_eq_false (by omega)
        clear hbig
        have HS5 : Hid (Bs w w1.heap.size [x0, x1, x2] [y0, y1, y2] w5) := ⟨hB5, hA15, hA25⟩
        clear hA15 hA25 hB5
        obtain ⟨E, hE⟩ : ∃ E, Hid (E = encC x.cd) := ⟨_, (rfl : encC x.cd = _)⟩
        obtain ⟨n1, hn1⟩ : ∃ n, Hid (E.length = n) := ⟨_, (rfl : E.length = _)⟩
        have hn1p : 0 < n1 := by rw [← hn1.out, hE.out]; unfold encC encVs; simp
        have hn1l : n1 ≤ 1476530700 := by rw [← hn1.out, hE.out]; exact encC_len (small_of (check_zero hk1).1)
        have hn1l : n1 + 1 ≤ 1099511627776 := by omega
        have hn1k : Hid (n1 + 1 ≤ 1099511627776) := hn1l
        obtain ⟨m1, hm1⟩ : ∃ m, n1 = m + 1 := ⟨n1 - 1, by omega⟩
        have hn1l : n1 ≤ 1099511627776 := by omega
        have HM1 : Hid (n1 = m1 + 1) := hm1
        clear hm1
        have hn1z : ((n1 : Int) == 0) = false := by rw [beq_eq_false_iff_ne]; omega
        have K16x : Hid (∀ u, Below w.heap.size w u → Calls Try.prog 16 #[.agg #[x0, x1, x2]] u fun e w' => (∃ g cap, e = .returned (.tuple #[.slice (some ⟨g, 0, none⟩) n1 cap, .int .i64 0]) ∧ n1 ≤ cap ∧ Row w' (some ⟨g, 0, none⟩) E) ∧ Below u.heap.size u w') := fun u hu => by
          have h := bytes_yes _ x u (HXI.out u hu) (Nat.le_refl _) hk1
          rw [hxc.out, ← hE.out, hn1.out] at h
          refine h.mono ?_
          rintro e w' ⟨⟨g, cap, he, hc, _, _, hcell⟩, hb⟩
          exact ⟨⟨g, cap, he, hc, rowCells (by rw [hn1.out]; exact hcell)⟩, hb⟩
        have HK1 : Hid (checkC x.cd = 0) := hk1
        clear hk1
        go_wp2_with (first
          | ((with_reducible show wpList _ _ _ _ _ _); refine wpList_load_at (P := Try.prog) rfl 25 (.tmp 3) rfl w.heap.size rfl 25 [x0, x1, x2] HS5.out.2.1 _ Try.underlying25 rfl i25 ?_)
          | (go_at_call 16; refine (K16x.out _ HS5.out.1).mono ?_; rintro _ w6 ⟨⟨g1, cap1, rfl, hcap1, hrow1⟩, hb6⟩; refine Hid.out ?_))
        refine hidU ?_
        have HS6 : Hid (Bs w w1.heap.size [x0, x1, x2] [y0, y1, y2] w6) := HS5.out.go hb6
        have HE6 : Hid (Row w6 (some ⟨g1, 0, none⟩) E) := hrow1
        clear hb6 HS5 K16x hrow1
        obtain ⟨n2, hn2⟩ : ∃ n, Hid (n = (encC y.cd).length) := ⟨_, (rfl : (encC y.cd).length = _)⟩
        have K16y : Hid (∀ u, Below w.heap.size w u → Calls Try.prog 16 #[.agg #[y0, y1, y2]] u fun e w' => (∃ g cap, e = .returned (.tuple #[.slice (some ⟨g, 0, none⟩) n2 cap, .int .i64 0]) ∧ Row w' (some ⟨g, 0, none⟩) (encC y.cd)) ∧ Below u.heap.size u w') := fun u hu => by
          have h := bytes_yes _ y u (HYI.out u hu) (Nat.le_refl _) hk2
          rw [hyc.out, ← hn2.out] at h
          refine h.mono ?_
          rintro e w' ⟨⟨g, cap, he, _, _, _, hcell⟩, hb⟩
          exact ⟨⟨g, cap, he, rowCells (by rw [← hn2.out]; exact hcell)⟩, hb⟩
        have HK2 : Hid (checkC y.cd = 0) := hk2
        clear hk2
        go_wp2_with (first
          | ((with_reducible show wpList _ _ _ _ _ _); refine wpList_load_at (P := Try.prog) rfl 25 (.tmp 4) rfl w1.heap.size rfl 25 [y0, y1, y2] HS6.out.2.2 _ Try.underlying25 rfl i25 ?_)
          | (go_at_call 16; refine (K16y.out _ HS6.out.1).mono ?_; rintro _ w7 ⟨⟨g2, cap2, rfl, hrow2⟩, hb7⟩; refine Hid.out ?_))
        refine hidU ?_
        have HS7 : Hid (Bs w w1.heap.size [x0, x1, x2] [y0, y1, y2] w7) := HS6.out.go hb7
        have HE7 : Hid (Row w7 (some ⟨g1, 0, none⟩) E) := HE6.out.below hb7
        have HG7 : Hid (Row w7 (some ⟨g2, 0, none⟩) (encC y.cd)) := hrow2
        clear hrow2
        clear hb7 K16y HS6 HE6
        have Q9 : Hid (Calls Try.prog 13 #[.slice (some ⟨g1, 0, none⟩) n1 cap1] w7 fun e w' => (∃ y0 y1 y2, e = .returned (.tuple #[.agg #[y0, y1, y2], .int .i64 0]) ∧ ∃ y : CT, y.cells = [y0, y1, y2] ∧ y.cd = x.cd ∧ y.In w'.heap.size w') ∧ Below w7.heap.size w7 w') := read_yes _ n1 cap1 E hn1.out w7 HE7.out hcap1 hn1l x.cd (by rw [hE.out]; exact read_enc HK1.out HOK.out.1)
        go_wp2_with (first
            | (go_at_call 13; refine Q9.out.mono ?_; rintro _ w8 ⟨⟨r0, r1, r2, rfl, hM⟩, hb8⟩; refine Hid.out ?_))
        refine hidU ?_
        have HM : Hid (∃ y : CT, y.cells = [r0, r1, r2] ∧ y.cd = x.cd ∧ y.In w8.heap.size w8) := hM
        have hr1 : ∀ x ∈ [r0, r1, r2], x.oneCell' = true := by
          obtain ⟨y, hy, _⟩ := hM
          rw [← hy]
          exact y.one
        clear hM Q9
        go_wp2_with (first
            | ((with_reducible show wpList _ _ _ _ _ _); refine wpList_alloc_at (o := { dst := some 12, .. }) rfl 25 rfl _ 3 z25 ?_; intro w9 Aw9 bw9 sw9; clear sw9)
            | ((with_reducible show wpList _ _ _ _ _ _); refine wpList_store_at (P := Try.prog) rfl 25 (.tmp 12) (.tmp 57) rfl w8.heap.size [r0, r1, r2] rfl rfl 25 _ Aw9 i25 rfl hr1 ?_; intro w10 Aw10 bw10 sw10; clear sw10; refine Hid.out ?_))
        refine hidU ?_
        have Bw10 : Below w8.heap.size w8 w10 := bw10.below bw9 (Nat.le_refl _) bw9.size
        have HS10 : Hid (Bs w w1.heap.size [x0, x1, x2] [y0, y1, y2] w10) := (HS7.out.go hb8).go Bw10
        have HE10 : Hid (Row w10 (some ⟨g1, 0, none⟩) E) := (HE7.out.below hb8).below Bw10
        have HG10 : Hid (Row w10 (some ⟨g2, 0, none⟩) (encC y.cd)) := (HG7.out.below hb8).below Bw10
        clear HG7
        have HR10 : Hid (At 25 w10 w8.heap.size [r0, r1, r2]) := Aw10
        have HI10 : Hid (∃ y : CT, y.cells = [r0, r1, r2] ∧ y.cd = x.cd ∧ y.In w10.heap.size w10) := by
          obtain ⟨y, h1, h2, h3⟩ := HM.out
          exact ⟨y, h1, h2, (CT.In.old h3 (Old.of_below Bw10 (Nat.le_refl _))).up Bw10.size⟩
        clear Aw9 bw9 Aw10 bw10 Bw10 hb8 HM hr1 HS7 HE7
        have Q10 : Hid (Calls Try.prog 13 #[.slice (some ⟨g1, 0, none⟩) m1 cap1] w10 fun e w' => e = .returned (.tuple #[.agg #[.slice none 0 0, .int .i64 0, .slice none 0 0], .int .i64 4]) ∧ Below w10.heap.size w10 w') := read_no _ m1 cap1 (E.take m1) (by rw [List.length_take, hn1.out]; have := HM1.out; omega) w10 (row_take HE10.out m1) (by have := HM1.out; omega) (by have := HM1.out; omega) (by rw [hE.out]; exact read_cut HK1.out HOK.out.1 m1 (by rw [← hE.out, hn1.out]; have := HM1.out; omega))
        have hsl := fun u => run_slice_to u (some ⟨g1, 0, none⟩) n1 cap1 m1 (m1 : Int) rfl (by have := HM1.out; omega)
        have hwm : IntKind.i64.wrap ((n1 : Int) - 1) = (m1 : Int) := by have := HM1.out; rw [IntKind.wrap_i64]; omega
        go_wp2_with (first
            | (go_at_call 13; refine Q10.out.mono ?_; rintro _ w11 ⟨rfl, hb11⟩)
            | ((with_reducible show wpList _ _ _ _ _ _); refine wpList_alloc_at (o := { dst := some 14, .. }) rfl 25 rfl _ 3 z25 ?_; intro w12 Aw12 bw12 sw12; clear sw12)
            | ((with_reducible show wpList _ _ _ _ _ _); refine wpList_store_at (P := Try.prog) rfl 25 (.tmp 14) (.tmp 66) rfl w11.heap.size [.slice none 0 0, .int .i64 0, .slice none 0 0] rfl rfl 25 _ Aw12 i25 rfl (CT.one ⟨none, 0, [], 0, none, 0, []⟩) ?_; intro w13 Aw13 bw13 sw13; clear sw13; refine Hid.out ?_))
        refine hidU ?_
        have Bw13 : Below w11.heap.size w11 w13 := bw13.below bw12 (Nat.le_refl _) bw12.size
        have HS13 : Hid (Bs w w1.heap.size [x0, x1, x2] [y0, y1, y2] w13) := (HS10.out.go hb11).go Bw13
        have HE13 : Hid (Row w13 (some ⟨g1, 0, none⟩) E) := (HE10.out.below hb11).below Bw13
        have HG13 : Hid (Row w13 (some ⟨g2, 0, none⟩) (encC y.cd)) := (HG10.out.below hb11).below Bw13
        clear HG10
        have HB13 : Hid (Below w10.heap.size w10 w13) := hb11.trans (Bw13.mono hb11.size)
        clear Aw12 bw12 Aw13 bw13 Bw13 hb11 HS10 HE10 Q10 hsl hwm
        have Q17 : Hid (Calls Try.prog 17 #[.slice (some ⟨g1, 0, none⟩) n1 cap1] w13 fun e w' => ∃ v, e = .returned v ∧ Own w13.heap.size w' v E ∧ Below w13.heap.size w13 w') := copyB_any g1 n1 cap1 E w13 hn1.out (rowCells' HE13.out hn1.out hn1p) hn1l
        go_wp2_with (first
            | (go_at_call 17; refine Q17.out.mono ?_; rintro _ w14 ⟨v14, rfl, hO14, hb14⟩; refine Hid.out ?_))
        refine hidU ?_
        have HO14 : Hid (Own w13.heap.size w14 v14 E ∧ E.length ≤ 1099511627776) := ⟨hO14, by rw [hn1.out]; exact hn1l⟩
        have hs14 := hb14.size
        clear Q17 hO14
        go_wp2_with (first
            | ((with_reducible show wpList _ _ _ _ _ _); refine app1 (.tmp 70) (.tmp 71) 0 0 w13.heap.size _ E rfl rfl rfl rfl HO14.out.1 rfl HO14.out.2 hs14 ?_; intro v15 w15 hO15 hb15; refine Hid.out ?_))
        refine hidU ?_
        obtain ⟨a15, c15, rfl, hc15, _, hr15⟩ := hO15.row
        obtain ⟨n3, hn3⟩ : ∃ n, Hid ((E ++ ([0] : List UInt8)).length = n) := ⟨_, (rfl : (E ++ ([0] : List UInt8)).length = _)⟩
        have hn3l : n3 ≤ 1099511627776 := by rw [← hn3.out, List.length_append, hn1.out]; show n1 + 1 ≤ _; exact hn1k.out
        rw [hn3.out] at hc15 ⊢
        have hb15' : Below w13.heap.size w13 w15 := hb14.trans hb15
        have Q15 : Hid (Calls Try.prog 13 #[.slice a15 n3 c15] w15 fun e w' => e = .returned (.tuple #[.agg #[.slice none 0 0, .int .i64 0, .slice none 0 0], .int .i64 4]) ∧ Below w15.heap.size w15 w') := read_no _ n3 c15 (E ++ [0]) hn3.out w15 hr15 hc15 hn3l (by rw [hE.out]; exact read_more HK1.out HOK.out.1 0)
        clear HO14 hO15 hb14 hb15 hr15 hs14
        go_wp2_with (first
            | (go_at_call 13; refine Q15.out.mono ?_; rintro _ w16 ⟨rfl, hb16⟩)
            | ((with_reducible show wpList _ _ _ _ _ _); refine wpList_alloc_at (o := { dst := some 16, .. }) rfl 25 rfl _ 3 z25 ?_; intro w17 Aw17 bw17 sw17; clear sw17)
            | ((with_reducible show wpList _ _ _ _ _ _); refine wpList_store_at (P := Try.prog) rfl 25 (.tmp 16) (.tmp 74) rfl w16.heap.size [.slice none 0 0, .int .i64 0, .slice none 0 0] rfl rfl 25 _ Aw17 i25 rfl (CT.one ⟨none, 0, [], 0, none, 0, []⟩) ?_; intro w18 Aw18 bw18 sw18; clear sw18; refine Hid.out ?_))
        refine hidU ?_
        have Bw18 : Below w16.heap.size w16 w18 := bw18.below bw17 (Nat.le_refl _) bw17.size
        have hb18 : Below w13.heap.size w13 w18 := (hb15'.trans (hb16.mono hb15'.size)).trans (Bw18.mono (Nat.le_trans hb15'.size hb16.size))
        have HS18w : Hid (Bs w w1.heap.size [x0, x1, x2] [y0, y1, y2] w18) := HS13.out.go hb18
        have hb1018 : Below w10.heap.size w10 w18 := HB13.out.trans (hb18.mono HB13.out.size)
        have hR18 := HR10.out.below hb1018
        have HI18 : Hid (∃ y : CT, y.cells = [r0, r1, r2] ∧ y.cd = x.cd ∧ y.In w18.heap.size w18) := by
          obtain ⟨y, h1, h2, h3⟩ := HI10.out
          exact ⟨y, h1, h2, (CT.In.old h3 (Old.of_below hb1018 (Nat.le_refl _))).up hb1018.size⟩
        have HC1 : Hid (∀ u, Below w18.heap.size w18 u → Calls Try.prog 10 #[.agg #[r0, r1, r2], .agg #[x0, x1, x2]] u fun e w' => e = .returned (.bool true) ∧ Below u.heap.size u w') := fun u hu => by
          obtain ⟨y, h1, h2, h3⟩ := HI18.out
          have h := kitC_any u.heap.size y x u ((CT.In.old h3 (Old.of_below hu (Nat.le_refl _))).up hu.size) (HXI.out u (HS18w.out.1.trans (hu.mono HS18w.out.1.size))) (Nat.le_refl _)
          rw [h1, h2, hxc.out, decide_eq_true rfl] at h
          exact h
        obtain ⟨bb, hbb⟩ : ∃ b, Hid (b = decide (x.cd = y.cd)) := ⟨_, (rfl : decide _ = _)⟩
        have HG18 : Hid (Row w18 (some ⟨g2, 0, none⟩) (encC y.cd)) := HG13.out.below hb18
        have HE18 : Hid (Row w18 (some ⟨g1, 0, none⟩) E) := HE13.out.below hb18
        have HS18 : Hid (∀ u, Below w18.heap.size w18 u → Calls Try.prog 18 #[.slice (some ⟨g1, 0, none⟩) n1 cap1, .slice (some ⟨g2, 0, none⟩) n2 cap2] u fun e w' => e = .returned (.bool bb) ∧ w' = u) := fun u hu => by
          have h := same_any (some ⟨g1, 0, none⟩) (some ⟨g2, 0, none⟩) cap1 cap2 E (encC y.cd) u (HE18.out.below hu) (HG18.out.below hu)
          have e : (E == encC y.cd) = bb := by
            rw [hbb.out, hE.out]
            by_cases hq : x.cd = y.cd
            · rw [decide_eq_true hq, hq, beq_self_eq_true]
            · rw [decide_eq_false hq, beq_eq_false_iff_ne]
              exact fun h => hq (enc_inj HK1.out HOK.out.1 HK2.out HOK.out.2 h)
          rw [hn1.out, ← hn2.out, e] at h
          exact h
        have HC2 : Hid (∀ u, Below w18.heap.size w18 u → Calls Try.prog 10 #[.agg #[x0, x1, x2], .agg #[y0, y1, y2]] u fun e w' => e = .returned (.bool bb) ∧ Below u.heap.size u w') := fun u hu => by
          have hw := HS18w.out.1.trans (hu.mono HS18w.out.1.size)
          have h := kitC_any u.heap.size x y u (HXI.out u hw) (HYI.out u hw) (Nat.le_refl _)
          rw [hxc.out, hyc.out, ← hbb.out] at h
          exact h
        have cx0 : w18.cell? ⟨w.heap.size, 0, none⟩ = some x0 := by rw [(HS18w.out.2.1).cell]; rfl
        have cx1 : w18.cell? ⟨w.heap.size, 1, none⟩ = some x1 := by rw [(HS18w.out.2.1).cell]; rfl
        have cx2 : w18.cell? ⟨w.heap.size, 2, none⟩ = some x2 := by rw [(HS18w.out.2.1).cell]; rfl
        have cy0 : w18.cell? ⟨w1.heap.size, 0, none⟩ = some y0 := by rw [(HS18w.out.2.2).cell]; rfl
        have cy1 : w18.cell? ⟨w1.heap.size, 1, none⟩ = some y1 := by rw [(HS18w.out.2.2).cell]; rfl
        have cy2 : w18.cell? ⟨w1.heap.size, 2, none⟩ = some y2 := by rw [(HS18w.out.2.2).cell]; rfl
        have cr0 : w18.cell? ⟨w8.heap.size, 0, none⟩ = some r0 := by rw [(hR18).cell]; rfl
        have cr1 : w18.cell? ⟨w8.heap.size, 1, none⟩ = some r1 := by rw [(hR18).cell]; rfl
        have cr2 : w18.cell? ⟨w8.heap.size, 2, none⟩ = some r2 := by rw [(hR18).cell]; rfl
        clear Aw17 bw17 Aw18 bw18 Bw18 hb16 hb15' hb18 hb1018 hR18 HS13 HE13 HB13 HR10 HI10 Q15 HI18 hc15 hn3l HG13 HG18 HE18
        go_wp2_with fail
        have hS0 : Below w18.heap.size w18 w18.drew := Below.drew (Below.refl _ _)
        refine wp_region_held_drew (S := fun x => Below w18.heap.size w18 x) (by kernel_rfl) hS0 (fun _ => ?_)
        refine wpAnyH_take (i := 0) (oi := { dst := some 76, op := .move (.tmp 13), type := _, pos := _, after := _, guard := none }) (v := .int .i64 0) rfl (by kernel_rfl) (by kernel_rfl) (by kernel_rfl) (fun _ _ _ h => h) (Or.inl ⟨by rfl, ?_⟩) hS0 ?_
        · intro wS hSw
          go_simp
        simp only [Act.put, List.setIfInBounds_toArray, List.set_cons_zero, List.set_cons_succ]
        refine wpAnyH_take (i := 1) (oi := { dst := some 77, op := .binOp .neq 39 (.tmp 76) (.const (.int .i64 0)) 39, type := _, pos := _, after := _, guard := none }) (v := .bool false) rfl (by kernel_rfl) (by kernel_rfl) (by kernel_rfl) (fun _ _ _ h => h) (Or.inl ⟨by rfl, ?_⟩) hS0 ?_
        · intro wS hSw
          go_simp
        simp only [Act.put, List.setIfInBounds_toArray, List.set_cons_zero, List.set_cons_succ]
        refine wpAnyH_take (i := 2) (oi := { dst := some 78, op := .move (.tmp 77), type := _, pos := _, after := _, guard := none }) (v := .bool false) rfl (by kernel_rfl) (by kernel_rfl) (by kernel_rfl) (fun _ _ _ h => h) (Or.inl ⟨by rfl, ?_⟩) hS0 ?_
        · intro wS hSw
          go_simp
        simp only [Act.put, List.setIfInBounds_toArray, List.set_cons_zero, List.set_cons_succ]
        refine wpAnyH_take (i := 3) (oi := { dst := some 79, op := .load 25 (.tmp 12), type := _, pos := _, after := _, guard := some (2, false) }) (v := .agg #[r0, r1, r2]) rfl (by kernel_rfl) (by kernel_rfl) (by kernel_rfl) (fun _ _ _ h => h) (Or.inl ⟨by rfl, ?_⟩) hS0 ?_
        · intro wS hSw
          have z0 := (hSw.cell (lt_of_cell cr0)).trans cr0
          have z1 := (hSw.cell (lt_of_cell cr1)).trans cr1
          have z2 := (hSw.cell (lt_of_cell cr2)).trans cr2
          go_simp
        simp only [Act.put, List.setIfInBounds_toArray, List.set_cons_zero, List.set_cons_succ]
        refine wpAnyH_take (i := 4) (oi := { dst := some 80, op := .load 25 (.tmp 3), type := _, pos := _, after := _, guard := some (2, false) }) (v := .agg #[x0, x1, x2]) rfl (by kernel_rfl) (by kernel_rfl) (by kernel_rfl) (fun _ _ _ h => h) (Or.inl ⟨by rfl, ?_⟩) hS0 ?_
        · intro wS hSw
          have z0 := (hSw.cell (lt_of_cell cx0)).trans cx0
          have z1 := (hSw.cell (lt_of_cell cx1)).trans cx1
          have z2 := (hSw.cell (lt_of_cell cx2)).trans cx2
          go_simp
        simp only [Act.put, List.setIfInBounds_toArray, List.set_cons_zero, List.set_cons_succ]
        refine wpAnyH_ready (rs := [5]) (by kernel_rfl) (by simp) ?_
        refine AllReadyH.cons (o := { dst := some 81, op := .call { callee := .value (.func 10), args := #[.tmp 79, .tmp 80], argTypes := #[25, 25] }, type := _, pos := _, after := _, guard := some (2, false) }) rfl (fun K hK => ?_) AllReadyH.nil
        rw [if_pos (by rfl)]
        go_wp2_with (go_at_call 10; refine (HC1.out _ hS0).mono ?_; rintro e wq1 ⟨rfl, hb1⟩)
        have hS1 := hS0.trans (hb1.mono hS0.size)
        refine hK.out _ _ hS1 (fun _ => ?_)
        clear hK K
        refine wpAnyH_take (i := 6) (oi := { dst := some 82, op := .unOp .not 4 (.tmp 81), type := _, pos := _, after := _, guard := some (2, false) }) (v := .bool false) rfl (by kernel_rfl) (by kernel_rfl) (by kernel_rfl) (fun _ _ _ h => h) (Or.inl ⟨by rfl, ?_⟩) hS1 ?_
        · intro wS hSw
          go_simp
        simp only [Act.put, List.setIfInBounds_toArray, List.set_cons_zero, List.set_cons_succ]
        refine wpAnyH_take (i := 7) (oi := { dst := some 83, op := .pick (.tmp 78) (.const (.bool true)) (.tmp 82), type := _, pos := _, after := _, guard := none }) (v := .bool false) rfl (by kernel_rfl) (by kernel_rfl) (by kernel_rfl) (fun _ _ _ h => h) (Or.inl ⟨by rfl, ?_⟩) hS1 ?_
        · intro wS hSw
          go_simp
        simp only [Act.put, List.setIfInBounds_toArray, List.set_cons_zero, List.set_cons_succ]
        refine wpAnyH_take (i := 8) (oi := { dst := some 84, op := .move (.tmp 83), type := _, pos := _, after := _, guard := none }) (v := .bool false) rfl (by kernel_rfl) (by kernel_rfl) (by kernel_rfl) (fun _ _ _ h => h) (Or.inl ⟨by rfl, ?_⟩) hS1 ?_
        · intro wS hSw
          go_simp
        simp only [Act.put, List.setIfInBounds_toArray, List.set_cons_zero, List.set_cons_succ]
        refine wpAnyH_take (i := 9) (oi := { dst := some 85, op := .move (.tmp 15), type := _, pos := _, after := _, guard := some (8, false) }) (v := .int .i64 4) rfl (by kernel_rfl) (by kernel_rfl) (by kernel_rfl) (fun _ _ _ h => h) (Or.inl ⟨by rfl, ?_⟩) hS1 ?_
        · intro wS hSw
          go_simp
        simp only [Act.put, List.setIfInBounds_toArray, List.set_cons_zero, List.set_cons_succ]
        refine wpAnyH_take (i := 10) (oi := { dst := some 86, op := .binOp .neq 39 (.tmp 85) (.const (.int .i64 4)) 39, type := _, pos := _, after := _, guard := some (8, false) }) (v := .bool false) rfl (by kernel_rfl) (by kernel_rfl) (by kernel_rfl) (fun _ _ _ h => h) (Or.inl ⟨by rfl, ?_⟩) hS1 ?_
        · intro wS hSw
          go_simp
        simp only [Act.put, List.setIfInBounds_toArray, List.set_cons_zero, List.set_cons_succ]
        refine wpAnyH_take (i := 11) (oi := { dst := some 87, op := .pick (.tmp 84) (.const (.bool true)) (.tmp 86), type := _, pos := _, after := _, guard := none }) (v := .bool false) rfl (by kernel_rfl) (by kernel_rfl) (by kernel_rfl) (fun _ _ _ h => h) (Or.inl ⟨by rfl, ?_⟩) hS1 ?_
        · intro wS hSw
          go_simp
        simp only [Act.put, List.setIfInBounds_toArray, List.set_cons_zero, List.set_cons_succ]
        refine wpAnyH_take (i := 12) (oi := { dst := some 88, op := .move (.tmp 87), type := _, pos := _, after := _, guard := none }) (v := .bool false) rfl (by kernel_rfl) (by kernel_rfl) (by kernel_rfl) (fun _ _ _ h => h) (Or.inl ⟨by rfl, ?_⟩) hS1 ?_
        · intro wS hSw
          go_simp
        simp only [Act.put, List.setIfInBounds_toArray, List.set_cons_zero, List.set_cons_succ]
        refine wpAnyH_take (i := 13) (oi := { dst := some 89, op := .move (.tmp 17), type := _, pos := _, after := _, guard := some (12, false) }) (v := .int .i64 4) rfl (by kernel_rfl) (by kernel_rfl) (by kernel_rfl) (fun _ _ _ h => h) (Or.inl ⟨by rfl, ?_⟩) hS1 ?_
        · intro wS hSw
          go_simp
        simp only [Act.put, List.setIfInBounds_toArray, List.set_cons_zero, List.set_cons_succ]
        refine wpAnyH_take (i := 14) (oi := { dst := some 90, op := .binOp .neq 39 (.tmp 89) (.const (.int .i64 4)) 39, type := _, pos := _, after := _, guard := some (12, false) }) (v := .bool false) rfl (by kernel_rfl) (by kernel_rfl) (by kernel_rfl) (fun _ _ _ h => h) (Or.inl ⟨by rfl, ?_⟩) hS1 ?_
        · intro wS hSw
          go_simp
        simp only [Act.put, List.setIfInBounds_toArray, List.set_cons_zero, List.set_cons_succ]
        refine wpAnyH_take (i := 15) (oi := { dst := some 91, op := .pick (.tmp 88) (.const (.bool true)) (.tmp 90), type := _, pos := _, after := _, guard := none }) (v := .bool false) rfl (by kernel_rfl) (by kernel_rfl) (by kernel_rfl) (fun _ _ _ h => h) (Or.inl ⟨by rfl, ?_⟩) hS1 ?_
        · intro wS hSw
          go_simp
        simp only [Act.put, List.setIfInBounds_toArray, List.set_cons_zero, List.set_cons_succ]
        refine wpAnyH_take (i := 16) (oi := { dst := some 92, op := .move (.tmp 91), type := _, pos := _, after := _, guard := none }) (v := .bool false) rfl (by kernel_rfl) (by kernel_rfl) (by kernel_rfl) (fun _ _ _ h => h) (Or.inl ⟨by rfl, ?_⟩) hS1 ?_
        · intro wS hSw
          go_simp
        simp only [Act.put, List.setIfInBounds_toArray, List.set_cons_zero, List.set_cons_succ]
        refine wpAnyH_take (i := 17) (oi := { dst := some 93, op := .move (.tmp 11), type := _, pos := _, after := _, guard := some (16, false) }) (v := .int .i64 0) rfl (by kernel_rfl) (by kernel_rfl) (by kernel_rfl) (fun _ _ _ h => h) (Or.inl ⟨by rfl, ?_⟩) hS1 ?_
        · intro wS hSw
          go_simp
        simp only [Act.put, List.setIfInBounds_toArray, List.set_cons_zero, List.set_cons_succ]
        refine wpAnyH_take (i := 18) (oi := { dst := some 94, op := .binOp .eql 39 (.tmp 93) (.const (.int .i64 0)) 39, type := _, pos := _, after := _, guard := some (16, false) }) (v := .bool true) rfl (by kernel_rfl) (by kernel_rfl) (by kernel_rfl) (fun _ _ _ h => h) (Or.inl ⟨by rfl, ?_⟩) hS1 ?_
        · intro wS hSw
          go_simp
        simp only [Act.put, List.setIfInBounds_toArray, List.set_cons_zero, List.set_cons_succ]
        refine wpAnyH_take (i := 19) (oi := { dst := some 95, op := .move (.tmp 94), type := _, pos := _, after := _, guard := some (16, false) }) (v := .bool true) rfl (by kernel_rfl) (by kernel_rfl) (by kernel_rfl) (fun _ _ _ h => h) (Or.inl ⟨by rfl, ?_⟩) hS1 ?_
        · intro wS hSw
          go_simp
        simp only [Act.put, List.setIfInBounds_toArray, List.set_cons_zero, List.set_cons_succ]
        refine wpAnyH_take (i := 20) (oi := { dst := some 96, op := .move (.tmp 8), type := _, pos := _, after := _, guard := some (19, true) }) (v := .slice (some ⟨g1, 0, none⟩) n1 cap1) rfl (by kernel_rfl) (by kernel_rfl) (by kernel_rfl) (fun _ _ _ h => h) (Or.inl ⟨by rfl, ?_⟩) hS1 ?_
        · intro wS hSw
          go_simp
        simp only [Act.put, List.setIfInBounds_toArray, List.set_cons_zero, List.set_cons_succ]
        refine wpAnyH_take (i := 21) (oi := { dst := some 97, op := .move (.tmp 10), type := _, pos := _, after := _, guard := some (19, true) }) (v := .slice (some ⟨g2, 0, none⟩) n2 cap2) rfl (by kernel_rfl) (by kernel_rfl) (by kernel_rfl) (fun _ _ _ h => h) (Or.inl ⟨by rfl, ?_⟩) hS1 ?_
        · intro wS hSw
          go_simp
        simp only [Act.put, List.setIfInBounds_toArray, List.set_cons_zero, List.set_cons_succ]
        refine wpAnyH_take (i := 23) (oi := { dst := some 99, op := .load 25 (.tmp 3), type := _, pos := _, after := _, guard := some (19, true) }) (v := .agg #[x0, x1, x2]) rfl (by kernel_rfl) (by kernel_rfl) (by kernel_rfl) (fun _ _ _ h => h) (Or.inl ⟨by rfl, ?_⟩) hS1 ?_
        · intro wS hSw
          have z0 := (hSw.cell (lt_of_cell cx0)).trans cx0
          have z1 := (hSw.cell (lt_of_cell cx1)).trans cx1
          have z2 := (hSw.cell (lt_of_cell cx2)).trans cx2
          go_simp
        simp only [Act.put, List.setIfInBounds_toArray, List.set_cons_zero, List.set_cons_succ]
        refine wpAnyH_take (i := 24) (oi := { dst := some 100, op := .load 25 (.tmp 4), type := _, pos := _, after := _, guard := some (19, true) }) (v := .agg #[y0, y1, y2]) rfl (by kernel_rfl) (by kernel_rfl) (by kernel_rfl) (fun _ _ _ h => h) (Or.inl ⟨by rfl, ?_⟩) hS1 ?_
        · intro wS hSw
          have z0 := (hSw.cell (lt_of_cell cy0)).trans cy0
          have z1 := (hSw.cell (lt_of_cell cy1)).trans cy1
          have z2 := (hSw.cell (lt_of_cell cy2)).trans cy2
          go_simp
        simp only [Act.put, List.setIfInBounds_toArray, List.set_cons_zero, List.set_cons_succ]
        refine wpAnyH_ready (rs := [22]) (by kernel_rfl) (by simp) ?_
        refine AllReadyH.cons (o := { dst := some 98, op := .call { callee := .value (.func 18), args := #[.tmp 96, .tmp 97], argTypes := #[42, 42] }, type := _, pos := _, after := _, guard := some (19, true) }) rfl (fun K hK => ?_) AllReadyH.nil
        rw [if_pos (by rfl)]
        go_wp2_with (go_at_call 18; refine (HS18.out _ hS1).mono ?_; rintro e wq2 ⟨rfl, rfl⟩)
        have hS2 := hS1
        refine hK.out _ _ hS2 (fun _ => ?_)
        clear hK K
        refine wpAnyH_ready (rs := [25]) (by kernel_rfl) (by simp) ?_
        refine AllReadyH.cons (o := { dst := some 101, op := .call { callee := .value (.func 10), args := #[.tmp 99, .tmp 100], argTypes := #[25, 25] }, type := _, pos := _, after := _, guard := some (19, true) }) rfl (fun K hK => ?_) AllReadyH.nil
        rw [if_pos (by rfl)]
        go_wp2_with (go_at_call 10; refine (HC2.out _ hS2).mono ?_; rintro e wq3 ⟨rfl, hb3⟩)
        have hS3 := hS2.trans (hb3.mono hS2.size)
        refine hK.out _ _ hS3 (fun _ => ?_)
        clear hK K
        refine wpAnyH_take (i := 26) (oi := { dst := some 102, op := .binOp .neq 4 (.tmp 98) (.tmp 101) 4, type := _, pos := _, after := _, guard := some (19, true) }) (v := .bool false) rfl (by kernel_rfl) (by kernel_rfl) (by kernel_rfl) (fun _ _ _ h => h) (Or.inl ⟨by rfl, ?_⟩) hS3 ?_
        · intro wS hSw
          go_simp
        simp only [Act.put, List.setIfInBounds_toArray, List.set_cons_zero, List.set_cons_succ]
        refine wpAnyH_take (i := 27) (oi := { dst := some 103, op := .pick (.tmp 95) (.tmp 102) (.const (.bool false)), type := _, pos := _, after := _, guard := some (16, false) }) (v := .bool false) rfl (by kernel_rfl) (by kernel_rfl) (by kernel_rfl) (fun _ _ _ h => h) (Or.inl ⟨by rfl, ?_⟩) hS3 ?_
        · intro wS hSw
          go_simp
        simp only [Act.put, List.setIfInBounds_toArray, List.set_cons_zero, List.set_cons_succ]
        refine wpAnyH_take (i := 28) (oi := { dst := some 104, op := .pick (.tmp 92) (.const (.bool true)) (.tmp 103), type := _, pos := _, after := _, guard := none }) (v := .bool false) rfl (by kernel_rfl) (by kernel_rfl) (by kernel_rfl) (fun _ _ _ h => h) (Or.inl ⟨by rfl, ?_⟩) hS3 ?_
        · intro wS hSw
          go_simp
        simp only [Act.put, List.setIfInBounds_toArray, List.set_cons_zero, List.set_cons_succ]
        refine wpAnyH_done (by kernel_rfl) ?_ _
        have hBf : Below w.heap.size w _ := HS18w.out.1.trans (hS3.mono HS18w.out.1.size)
        clear cx0 cx1 cx2 cy0 cy1 cy2 cr0 cr1 cr2
        go_wp2_with fail
        cases hrd : readC bs with
        | none =>
          have QR := read_no ab nb cb bs hnb.out wq3 (HRow.out.below hBf) hcb hlb hrd
          have HQR : Hid (Calls Try.prog 13 #[.slice ab nb cb] wq3 fun e w' => e = .returned (.tuple #[.agg #[.slice none 0 0, .int .i64 0, .slice none 0 0], .int .i64 4]) ∧ Below wq3.heap.size wq3 w') := QR
          clear QR hrd
          go_wp2_with (first
            | (go_at_call 13; refine HQR.out.mono ?_; rintro _ t1 ⟨rfl, ht1⟩)
            | ((with_reducible show wpList _ _ _ _ _ _); refine wpList_alloc_at (o := { dst := some 18, .. }) rfl 25 rfl _ 3 z25 ?_; intro t2 tA2 tb2 ts2; clear ts2)
            | ((with_reducible show wpList _ _ _ _ _ _); refine wpList_store_at (P := Try.prog) rfl 25 (.tmp 18) (.tmp 108) rfl t1.heap.size [.slice none 0 0, .int .i64 0, .slice none 0 0] rfl rfl 25 _ tA2 i25 rfl (CT.one ⟨none, 0, [], 0, none, 0, []⟩) ?_; intro t3 tA3 tb3 ts3; clear ts3; refine Hid.out ?_))
          refine hidU ?_
          have hT := hBf.trans (ht1.mono hBf.size)
          have hT2 := hT.trans (tb2.mono hT.size)
          have hT3 := tb3.below hT2 hT.size hT2.size
          clear tA2 tA3 tb2 tb3 ht1 hT hT2 HQR
          go_wp2
          go_ret
          exact ⟨rfl, hT3⟩
        | some cd2 =>
          have QR := read_yes ab nb cb bs hnb.out wq3 (HRow.out.below hBf) hcb hlb cd2 hrd
          have HQR : Hid (Calls Try.prog 13 #[.slice ab nb cb] wq3 fun e w' => (∃ y0 y1 y2, e = .returned (.tuple #[.agg #[y0, y1, y2], .int .i64 0]) ∧ ∃ y : CT, y.cells = [y0, y1, y2] ∧ y.cd = cd2 ∧ y.In w'.heap.size w') ∧ Below wq3.heap.size wq3 w') := QR
          have HRD : Hid (encC cd2 = bs ∧ checkC cd2 = 0) := ⟨(enc_read hrd).1, (enc_read hrd).2.1⟩
          clear QR hrd
          go_wp2_with (first
            | (go_at_call 13; refine HQR.out.mono ?_; rintro _ t1 ⟨⟨m0, m1, m2, rfl, hM⟩, ht1⟩)
            | ((with_reducible show wpList _ _ _ _ _ _); refine wpList_alloc_at (o := { dst := some 18, .. }) rfl 25 rfl _ 3 z25 ?_; intro t2 tA2 tb2 ts2; clear ts2; refine Hid.out ?_))
          refine hidU ?_
          have HM : Hid (∃ y : CT, y.cells = [m0, m1, m2] ∧ y.cd = cd2 ∧ y.In t1.heap.size t1) := hM
          have hm1 : ∀ x ∈ [m0, m1, m2], x.oneCell' = true := by
            obtain ⟨y, hy, _⟩ := hM
            rw [← hy]
            exact y.one
          clear hM HQR
          go_wp2_with (first
            | ((with_reducible show wpList _ _ _ _ _ _); refine wpList_store_at (P := Try.prog) rfl 25 (.tmp 18) (.tmp 108) rfl t1.heap.size [m0, m1, m2] rfl rfl 25 _ tA2 i25 rfl hm1 ?_; intro t3 tA3 tb3 ts3; clear ts3; refine Hid.out ?_))
          refine hidU ?_
          have hT := hBf.trans (ht1.mono hBf.size)
          have hT2 := hT.trans (tb2.mono hT.size)
          have hT3 := tb3.below hT2 hT.size hT2.size
          have Q16 : Hid (Calls Try.prog 16 #[.agg #[m0, m1, m2]] t3 fun e w' => (∃ g cap, e = .returned (.tuple #[.slice (some ⟨g, 0, none⟩) nb cap, .int .i64 0]) ∧ Row w' (some ⟨g, 0, none⟩) bs) ∧ Below t3.heap.size t3 w') := by
            obtain ⟨y, h1, h2, h3⟩ := HM.out
            have hI : y.In t3.heap.size t3 := (CT.In.old h3 (fun k hk => by rw [tb3.block k (Nat.lt_of_lt_of_le hk tb2.size) (by omega), tb2.block k hk])).up (Nat.le_trans tb2.size tb3.size)
            have h := bytes_yes _ y t3 hI (Nat.le_refl _) (by rw [h2]; exact HRD.out.2)
            rw [h1, h2, HRD.out.1, hnb.out] at h
            refine h.mono ?_
            rintro e w' ⟨⟨g, cap, he, _, _, _, hcell⟩, hb⟩
            exact ⟨⟨g, cap, he, rowCells (by rw [hnb.out]; exact hcell)⟩, hb⟩
          clear tA2 tb2 tb3 ht1 hT hT2 HM
          go_wp2_with (first
            | ((with_reducible show wpList _ _ _ _ _ _); refine wpList_load_at (P := Try.prog) rfl 25 (.tmp 18) rfl t1.heap.size rfl 25 [m0, m1, m2] tA3 _ Try.underlying25 rfl i25 ?_)
            | (go_at_call 16; refine Q16.out.mono ?_; rintro _ t4 ⟨⟨g4, cap4, rfl, hrow4⟩, ht4⟩; refine Hid.out ?_))
          refine hidU ?_
          have hT4 := hT3.trans (ht4.mono hT3.size)
          have QS : Hid (Calls Try.prog 18 #[.slice (some ⟨g4, 0, none⟩) nb cap4, .slice ab nb cb] t4 fun e w' => e = .returned (.bool true) ∧ w' = t4) := by
            have h := same_any (some ⟨g4, 0, none⟩) ab cap4 cb bs bs t4 hrow4 (HRow.out.below hT4)
            rw [hnb.out, beq_self_eq_true] at h
            exact h
          clear tA3 Q16 hrow4 ht4 hT3
          go_wp2_with (first
            | (go_at_call 18; refine QS.out.mono ?_; rintro _ t5 ⟨rfl, rfl⟩))
          go_ret
          exact ⟨rfl, hT4⟩



end Go.Proofs.Ytefklmckkigllaa

/-! text BkA -/
namespace Go.Proofs.Ytefklmckkigllaa
open Go.RowKit

theorem back_any (B : Nat) (x y : CT) (ab : Option Addr) (cb : Nat) (bs : List UInt8) (w : World) (hx : x.In B w) (hy : y.In B w) (hBw : B ≤ w.heap.size) (hrow : Row w ab bs) (hcb : bs.length ≤ cb) (hlb : bs.length ≤ 1099511627776) :
    Calls Try.prog 5 #[.agg x.cells.toArray, .agg y.cells.toArray, .slice ab bs.length cb] w fun e w' => e = .returned (.bool true) ∧ Below w.heap.size w w' := by
  by_cases h1 : checkC x.cd = 0
  · by_cases h2 : checkC y.cd = 0
    · exact back_yy B x y ab cb bs w hx hy hBw hrow hcb hlb h1 h2
    · exact back_yn B x y ab cb bs w hx hy hBw hrow hcb hlb h1 h2
  · exact back_no B x y ab cb bs w hx hy hBw hrow hcb hlb h1
end Go.Proofs.Ytefklmckkigllaa

