/- Rows of rows of bytes; Pick, CopyBytes, lists. -/
import Derived.Test.YtbehmclligkbhaaFrA
import Derived.Test.YtbehmclligkbhaaFrC
namespace Go.Proofs.Ytbehmclligkbhaa
open Go.RowKit
set_option linter.unusedVariables false

/-- A row of bytes, and where it lies. -/
structure BT where
  ad : Option Addr
  bs : List UInt8
  cp : Nat
def eR : El BT := ⟨27, 22, 1, 24, .slice none 0 0, fun t => [.slice t.ad t.bs.length t.cp], fun _ => rfl, fun x v hv => by simp at hv; subst hv; rfl, by kernel_rfl, by kernel_rfl, rfl, by decide⟩
def eI : El Int := ⟨40, 3, 1, 8, .int .i64 0, fun z => [.int .i64 z], fun _ => rfl, fun x v hv => by simp at hv; subst hv; rfl, by kernel_rfl, by kernel_rfl, rfl, by decide⟩
def BT.In (w : World) (t : BT) : Prop := Row w t.ad t.bs ∧ t.bs.length ≤ t.cp ∧ (t.ad = none → t.cp = 0)
/-- A list of rows of bytes that is read. -/
def LB (w : World) (a : Option Addr) (xs : List BT) : Prop := RowX eR w a xs ∧ ∀ x ∈ xs, x.In w
def bss (xs : List BT) : List (List UInt8) := xs.map BT.bs
section
variable {w w' : World} {a : Option Addr} {xs : List BT}
theorem BT.In.below {t : BT} (h : t.In w) (hb : Below w.heap.size w w') : t.In w' := ⟨h.1.below hb, h.2⟩
theorem LB.below (h : LB w a xs) (hb : Below w.heap.size w w') : LB w' a xs := ⟨h.1.below hb, fun x hx => (h.2 x hx).below hb⟩
theorem LB.at (h : LB w a xs) {i : Nat} {t : BT} (ht : xs[i]? = some t) : ∃ g o, a = some ⟨g, o, none⟩ ∧ w.cell? ⟨g, o + i, none⟩ = some (.slice t.ad t.bs.length t.cp) ∧ t.In w := by
  obtain ⟨g, o, e, hr⟩ := h.1.at ht
  refine ⟨g, o, e, ?_, h.2 t (List.mem_of_getElem? ht)⟩
  have := hr 0 _ rfl
  rwa [show o + i * eR.n + 0 = o + i from (by show o + i * 1 + 0 = _; omega)] at this
end
set_option maxRecDepth 100000 in
set_option maxHeartbeats 800000 in
theorem pick_any (x n : Int) (w : World) (hx1 : -9223372036854775808 ≤ x) (hx2 : x < 9223372036854775808) (hn2 : n < 9223372036854775808) :
    Calls Try.prog 25 #[.int .i64 x, .int .i64 n] w fun e w' => (∃ k : Nat, e = .returned (.int .i64 k) ∧ (1 ≤ n → (k : Int) < n) ∧ (n < 1 → k = 0)) ∧ w' = w := by
  by_cases hn : n < 1
  · go_enter Try.func25, Try.ntmps25
    go_wp2
    go_ret
    exact ⟨⟨0, rfl, by omega, fun _ => rfl⟩, rfl⟩
  · have hn0 : (n == 0) = false := by rw [beq_eq_false_iff_ne]; omega
    obtain ⟨r, hr⟩ : ∃ r, r = x.tmod n := ⟨_, rfl⟩
    have hr1 : r < n := by rw [hr]; exact Int.tmod_lt_of_pos _ (by omega)
    have hr2 : -n < r := by rw [hr]; have := Int.tmod_lt_of_pos (-x) (b := n) (by omega); rw [Int.neg_tmod] at this; omega
    have hrw : IntKind.i64.wrap (x.tmod n) = r := by rw [← hr, IntKind.wrap_i64]; omega
    by_cases hneg : r < 0
    · have hw : IntKind.i64.wrap (r + n) = r + n := by rw [IntKind.wrap_i64]; omega
      go_enter Try.func25, Try.ntmps25
      go_wp2
      go_ret
      exact ⟨⟨(r + n).toNat, by go_num, by omega, by omega⟩, rfl⟩
    · go_enter Try.func25, Try.ntmps25
      go_wp2
      go_ret
      exact ⟨⟨r.toNat, by go_num, by omega, by omega⟩, rfl⟩
set_option maxRecDepth 100000 in
set_option maxHeartbeats 800000 in
theorem copy_any (a : Option Addr) (n c : Nat) (bs : List UInt8) (w : World) (hr : Row w a bs) (hn : n = bs.length) (hc : n ≤ c) (hz : a = none → c = 0) (hl : n ≤ 1099511627776) :
    Calls Try.prog 26 #[.slice a n c] w fun r w' => ∃ v, r = .returned v ∧ OwnX eB w.heap.size w' v bs ∧ Below w.heap.size w w' := by
  have HR := hidU hr
  have HN := hidU hn
  clear hr hn
  go_enter Try.func26, Try.ntmps26
  go_wp2_with (refine wpList_layB0 rfl rfl ?_; intro w1 ho1 hb1 hs1; refine Hid.out ?_)
  refine hidU ?_
  have HO := hidU ho1
  have HB := hidU hb1
  have HS := hidU hs1
  clear ho1 hb1 hs1
  go_wp2_with (refine wpList_appX eB rfl (.tmp 3) (.tmp 4) rfl w.heap.size _ a n c rfl rfl HO.out HN.out.symm hz hc (rowB.2 (HR.out.below HB.out)) (by simp; unfold maxLen; omega) (by show (0 + n) * 1 ≤ _; omega) (by have := HB.out.size; exact this) ?_; intro v w2 ho2 hg2; refine Hid.out ?_)
  refine hidU ?_
  have HO2 := hidU ho2
  have HB2 : Hid (Below w.heap.size w w2) := HB.out.grown hg2 HB.out.size (fun k hk => (HO.out.block k hk).1)
  clear ho2 hg2 HO HB HS
  go_wp2
  go_ret
  exact ⟨v, rfl, HO2.out, HB2.out⟩
set_option maxRecDepth 100000 in
set_option maxHeartbeats 3200000 in
/-- Two lists of records are the same. -/
theorem lists_any (xs ys : List BT) (a b : Option Addr) (c1 c2 : Nat) (w : World) (h1 : LB w a xs) (h2 : LB w b ys) (k1 : xs.length ≤ c1) (k2 : ys.length ≤ c2) (hl : xs.length ≤ 1099511627776) (hl2 : ys.length ≤ 1099511627776) :
    Calls Try.prog 21 #[.slice a xs.length c1, .slice b ys.length c2] w fun r w' => r = .returned (.bool (bss xs == bss ys)) ∧ Below w.heap.size w w' := by
  obtain ⟨R, hR⟩ : ∃ R, Hid (R = (bss xs == bss ys)) := ⟨_, (rfl : (bss xs == bss ys) = _)⟩
  rw [← hR.out]
  obtain ⟨m, hm⟩ : ∃ n, Hid (n = xs.length) := ⟨_, (rfl : xs.length = _)⟩
  obtain ⟨n, hn⟩ : ∃ n, Hid (n = ys.length) := ⟨_, (rfl : ys.length = _)⟩
  have H1 := hidU h1
  have H2 := hidU h2
  rw [← hm.out] at k1 hl ⊢
  rw [← hn.out] at k2 hl2 ⊢
  clear h1 h2
  by_cases hmn : m = n
  · subst hmn
    go_enter Try.func21, Try.ntmps21
    go_wp2
    go_loopw [5] (fun j wr => ∃ i : Nat, j = .int .i64 (i : Int) ∧ i ≤ m ∧ Hid (Below w.heap.size w wr) ∧ Hid (∀ (q : Nat) (x y : BT), q < i → xs[q]? = some x → ys[q]? = some y → x.bs = y.bs)) (fun j _ => m - (intOf j).toNat)
    case atStart => exact ⟨0, rfl, by omega, Below.refl _ _, fun q x y h => by omega⟩
    case round =>
      obtain ⟨i, rfl, hi, hB, hX⟩ := hrel
      by_cases hc : i < m
      · obtain ⟨x, hx⟩ : ∃ x, xs[i]? = some x := ⟨_, List.getElem?_eq_getElem (by rw [← hm.out]; exact hc)⟩
        obtain ⟨y, hy⟩ : ∃ x, ys[i]? = some x := ⟨_, List.getElem?_eq_getElem (by rw [← hn.out]; exact hc)⟩
        obtain ⟨g1, o1, rfl, q1, i1⟩ := (H1.out.below hB.out).at hx
        obtain ⟨g2, o2, rfl, q2, i2⟩ := (H2.out.below hB.out).at hy
        have hO : ∀ k, Calls Try.prog 17 #[.slice x.ad x.bs.length x.cp, .slice y.ad y.bs.length y.cp] (wr.drewN k) fun e w' => e = .returned (.bool (x.bs == y.bs)) ∧ w' = wr.drewN k := fun k => same_any x.ad y.ad x.cp y.cp x.bs y.bs _ i1.1 i2.1
        obtain ⟨xl, hxl⟩ : ∃ l, l = x.bs.length := ⟨_, rfl⟩
        obtain ⟨yl, hyl⟩ : ∃ l, l = y.bs.length := ⟨_, rfl⟩
        rw [← hxl] at q1 hO
        rw [← hyl] at q2 hO
        have HX := hidU hx
        have HY := hidU hy
        clear hx hy i1 i2 hxl hyl
        cases hb : (x.bs == y.bs) with
        | true =>
          have HE : Hid (x.bs = y.bs) := beq_iff_eq.1 hb
          rw [hb] at hO
          clear hb
          go_wp2
          go_quiet (first | (go_at_call 17; exact Calls.quiet_of_same (hO _)))
          go_wp2
          go_roundw
          case rel =>
            refine ⟨i + 1, by go_num, by omega, below_drN hB.out, fun q u v hq hu hv => ?_⟩
            by_cases hqi : q = i
            · subst hqi
              rw [HX.out] at hu
              rw [HY.out] at hv
              cases hu
              cases hv
              exact HE.out
            · exact hX.out q u v (by omega) hu hv
          case measure => simp [intOf]; omega
        | false =>
          have hRf : R = false := by
            rw [hR.out, beq_eq_false_iff_ne]
            intro e
            have e2 := congrArg (fun l => l[i]?) e
            simp only [bss, List.getElem?_map, HX.out, HY.out, Option.map_some, Option.some.injEq] at e2
            rw [e2] at hb
            simp at hb
          subst hRf
          rw [hb] at hO
          clear hX hR hb
          go_wp2
          go_quiet (first | (go_at_call 17; exact Calls.quiet_of_same (hO _)))
          go_wp2
          go_ret
          exact ⟨rfl, below_drN hB.out⟩
      · have hRf : R = true := by
          rw [hR.out, beq_iff_eq]
          refine List.ext_getElem? fun q => ?_
          unfold bss
          rw [List.getElem?_map, List.getElem?_map]
          cases hx : xs[q]? with
          | none =>
            have := List.getElem?_eq_none_iff.1 hx
            rw [List.getElem?_eq_none (by rw [← hn.out, hm.out]; exact this)]
          | some x =>
            have hq := (List.getElem?_eq_some_iff.1 hx).1
            cases hy : ys[q]? with
            | none =>
              have := List.getElem?_eq_none_iff.1 hy
              rw [← hn.out, hm.out] at this
              omega
            | some y =>
              simp only [Option.map_some]
              rw [hX.out q x y (by rw [← hm.out] at hq; omega) hx hy]
        subst hRf
        clear hX hR
        go_wp2
        go_ret
        exact ⟨rfl, hB.out⟩
  · have hRf : R = false := by
      rw [hR.out, beq_eq_false_iff_ne]
      intro e
      have e2 := congrArg List.length e
      simp only [bss, List.length_map] at e2
      rw [← hm.out, ← hn.out] at e2
      exact hmn e2
    subst hRf
    clear hR
    go_enter Try.func21, Try.ntmps21
    go_wp2
    go_ret
    exact ⟨rfl, Below.refl _ _⟩
end Go.Proofs.Ytbehmclligkbhaa
