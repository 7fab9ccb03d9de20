/- Joined texts of the proof. -/
import Derived.Test.YtcmahiphfpgadaaGreatDoorJ14
import Derived.Test.YtcmahiphfpgadaaGreatDoorJ15
import Derived.Test.YtcmahiphfpgadaaGreatDoorJ17
import Derived.Test.YtcmahiphfpgadaaGreatDoorJ13
import Derived.Deep.OwnRows

/- The document's own comparison of variables and of names. -/
namespace Go.Proofs.YtcmahiphfpgadaaGreatDoor
open Go.RowKit
set_option linter.unusedVariables false

set_option maxRecDepth 100000 in
set_option maxHeartbeats 3200000 in
theorem kitN_any (B : Nat) (xs ys : List ByteArray) (a1 a2 : Option Addr) (c1 c2 : Nat) (w : World) (h1 : RowN B w a1 c1 xs) (h2 : RowN B w a2 c2 ys) (hBw : B ≤ w.heap.size) :
    Calls Tryz.prog 44 #[.slice a1 xs.length c1, .slice a2 ys.length c2] w fun r w' => r = .returned (.bool (eqL samN (xs.map (fun s : ByteArray => s.data.toList)) (ys.map (fun s : ByteArray => s.data.toList)))) ∧ Below w.heap.size w w' := by
  obtain ⟨R, hR⟩ : ∃ R, Hid (R = eqL samN (xs.map (fun s : ByteArray => s.data.toList)) (ys.map (fun s : ByteArray => s.data.toList))) := ⟨_, (rfl : _ = eqL samN _ _)⟩
  rw [← hR.out]
  obtain ⟨n, hn⟩ : ∃ n, Hid (n = xs.length) := ⟨_, (rfl : xs.length = _)⟩
  obtain ⟨n2, hn2⟩ : ∃ n, Hid (n = ys.length) := ⟨_, (rfl : ys.length = _)⟩
  have hl1 := h1.1
  have hl2 := h2.1
  have hk1 := h1.2.1
  have hk2 := h2.2.1
  rw [← hn.out] at hl1 hk1 ⊢
  rw [← hn2.out] at hl2 hk2 ⊢
  have HR : Hid (RowN B w a1 c1 xs ∧ RowN B w a2 c2 ys) := ⟨h1, h2⟩
  clear h1 h2
  by_cases hnn : n = n2
  · subst hnn
    go_enter Tryz.func44, Tryz.ntmps44
    go_wp2_with fail
    go_loopw [5] (fun j wr => ∃ i : Nat, j = .int .i64 (i : Int) ∧ i ≤ n ∧ Hid (Below w.heap.size w wr ∧ ∀ (q : Nat) (x y : List UInt8), q < i → (xs.map (fun s : ByteArray => s.data.toList))[q]? = some x → (ys.map (fun s : ByteArray => s.data.toList))[q]? = some y → samN x y = true)) (fun j _ => n - (intOf j).toNat)
    case atStart => exact ⟨0, rfl, by omega, Below.refl _ _, fun q x y hq => by omega⟩
    case round =>
      obtain ⟨i, rfl, hi, hX⟩ := hrel
      by_cases hc : i < n
      · obtain ⟨x, hx⟩ : ∃ k, xs[i]? = some k := ⟨xs[i]'(by rw [← hn.out]; exact hc), by rw [List.getElem?_eq_getElem]⟩
        obtain ⟨y, hy⟩ : ∃ k, ys[i]? = some k := ⟨ys[i]'(by rw [← hn2.out]; exact hc), by rw [List.getElem?_eq_getElem]⟩
        obtain ⟨hbw, hall⟩ := hX.out
        have hold : Old B w wr := Old.of_below hbw hBw
        obtain ⟨g1, o1, rfl, hg1, hr1⟩ := (HR.out.1.old hold).at i x hx
        obtain ⟨g2, o2, rfl, hg2, hr2⟩ := (HR.out.2.old hold).at i y hy
        have HA : Hid (∀ (q : Nat) (x y : List UInt8), q < i → (xs.map (fun s : ByteArray => s.data.toList))[q]? = some x → (ys.map (fun s : ByteArray => s.data.toList))[q]? = some y → samN x y = true) := hall
        have HXY : Hid ((xs.map (fun s : ByteArray => s.data.toList))[i]? = some ((fun s : ByteArray => s.data.toList) x) ∧ (ys.map (fun s : ByteArray => s.data.toList))[i]? = some ((fun s : ByteArray => s.data.toList) y)) := ⟨by rw [List.getElem?_map, hx]; rfl, by rw [List.getElem?_map, hy]; rfl⟩
        clear hX hold hall HR hx hy
        cases hM : samN ((fun s : ByteArray => s.data.toList) x) ((fun s : ByteArray => s.data.toList) y) with
        | false =>
          have hRf : R = false := by
            rw [hR.out, Bool.eq_false_iff]
            intro h
            have := ((eqL_iff _ _ _).1 h).2 i _ _ HXY.out.1 HXY.out.2
            rw [hM] at this
            cases this
          have hs : (x.toList == y.toList) = false := by
            rw [toList_bytes, toList_bytes, beq_eq_false_iff_ne]
            exact of_decide_eq_false hM
          clear hM
          go_wp2_with fail
          go_quiet (fail)
          go_wp2_with fail
          go_ret
          exact ⟨by rw [hRf]; rfl, below_drN hbw _⟩
        | true =>
          have HM : Hid (samN ((fun s : ByteArray => s.data.toList) x) ((fun s : ByteArray => s.data.toList) y) = true) := hM
          have hs : (x.toList == y.toList) = true := by
            rw [toList_bytes, toList_bytes, beq_iff_eq]
            exact of_decide_eq_true hM
          clear hM
          go_wp2_with fail
          go_quiet (fail)
          go_wp2_with fail
          go_roundw
          case rel =>
            refine ⟨i + 1, by go_num, by omega, below_drN hbw _, fun q u v hq hu hv => ?_⟩
            by_cases hqi : q = i
            · subst hqi
              rw [HXY.out.1] at hu
              rw [HXY.out.2] at hv
              cases hu
              cases hv
              exact HM.out
            · exact HA.out q u v (by omega) hu hv
          case measure => simp [intOf]; omega
      · have hin : i = n := by omega
        obtain ⟨hbw, hall⟩ := hX.out
        have hRt : R = true := by
          rw [hR.out, eqL_iff, List.length_map, List.length_map, ← hn.out, ← hn2.out]
          refine ⟨rfl, fun q u v hu hv => hall q u v ?_ hu hv⟩
          have := (List.getElem?_eq_some_iff.1 hu).1
          rw [List.length_map, ← hn.out] at this
          omega
        clear hX hall hin HR
        go_wp2
        go_ret
        exact ⟨by rw [hRt]; rfl, hbw⟩
  · have hne : ((n : Int) == (n2 : Int)) = false := by rw [beq_eq_false_iff_ne]; omega
    have hRf : R = false := by
      rw [hR.out, Bool.eq_false_iff]
      intro h
      have := (eqL_iff _ _ _).1 h
      rw [List.length_map, List.length_map, ← hn.out, ← hn2.out] at this
      exact hnn this.1
    clear hnn
    go_enter Tryz.func44, Tryz.ntmps44
    go_wp2_with fail
    go_ret
    exact ⟨by rw [hRf]; rfl, Below.refl _ _⟩

set_option maxRecDepth 100000 in
set_option maxHeartbeats 3200000 in
theorem kitV_any (B : Nat) (xs ys : List VT) (a1 a2 : Option Addr) (c1 c2 : Nat) (w : World) (h1 : RowV B w a1 c1 xs) (h2 : RowV B w a2 c2 ys) (hBw : B ≤ w.heap.size) :
    Calls Tryz.prog 43 #[.slice a1 xs.length c1, .slice a2 ys.length c2] w fun r w' => r = .returned (.bool (eqL samV (xs.map VT.vr) (ys.map VT.vr))) ∧ Below w.heap.size w w' := by
  obtain ⟨R, hR⟩ : ∃ R, Hid (R = eqL samV (xs.map VT.vr) (ys.map VT.vr)) := ⟨_, (rfl : _ = eqL samV _ _)⟩
  rw [← hR.out]
  obtain ⟨n, hn⟩ : ∃ n, Hid (n = xs.length) := ⟨_, (rfl : xs.length = _)⟩
  obtain ⟨n2, hn2⟩ : ∃ n, Hid (n = ys.length) := ⟨_, (rfl : ys.length = _)⟩
  have hl1 := h1.1
  have hl2 := h2.1
  have hk1 := h1.2.1
  have hk2 := h2.2.1
  rw [← hn.out] at hl1 hk1 ⊢
  rw [← hn2.out] at hl2 hk2 ⊢
  have HR : Hid (RowV B w a1 c1 xs ∧ RowV B w a2 c2 ys) := ⟨h1, h2⟩
  clear h1 h2
  by_cases hnn : n = n2
  · subst hnn
    go_enter Tryz.func43, Tryz.ntmps43
    go_wp2_with fail
    go_loopw [5] (fun j wr => ∃ i : Nat, j = .int .i64 (i : Int) ∧ i ≤ n ∧ Hid (Below w.heap.size w wr ∧ ∀ (q : Nat) (x y : Vr), q < i → (xs.map VT.vr)[q]? = some x → (ys.map VT.vr)[q]? = some y → samV x y = true)) (fun j _ => n - (intOf j).toNat)
    case atStart => exact ⟨0, rfl, by omega, Below.refl _ _, fun q x y hq => by omega⟩
    case round =>
      obtain ⟨i, rfl, hi, hX⟩ := hrel
      by_cases hc : i < n
      · obtain ⟨x, hx⟩ : ∃ k, xs[i]? = some k := ⟨xs[i]'(by rw [← hn.out]; exact hc), by rw [List.getElem?_eq_getElem]⟩
        obtain ⟨y, hy⟩ : ∃ k, ys[i]? = some k := ⟨ys[i]'(by rw [← hn2.out]; exact hc), by rw [List.getElem?_eq_getElem]⟩
        obtain ⟨hbw, hall⟩ := hX.out
        have hold : Old B w wr := Old.of_below hbw hBw
        obtain ⟨g1, o1, rfl, hg1, hr1, hi1⟩ := (HR.out.1.old hold).at i x hx
        obtain ⟨g2, o2, rfl, hg2, hr2, hi2⟩ := (HR.out.2.old hold).at i y hy
        obtain ⟨nm, t, b⟩ := x
        obtain ⟨nm', t', b'⟩ := y
        have x0 : wr.cell? ⟨g1, o1 + i * 3, none⟩ = some (.string nm) := by have := hr1 0 _ rfl; simpa using this
        have x1 : wr.cell? ⟨g1, o1 + i * 3 + 1, none⟩ = some (.int .u8 (t : Int)) := hr1 1 _ rfl
        have x2 : wr.cell? ⟨g1, o1 + i * 3 + 2, none⟩ = some (.int .u64 (b : Int)) := hr1 2 _ rfl
        have y0 : wr.cell? ⟨g2, o2 + i * 3, none⟩ = some (.string nm') := by have := hr2 0 _ rfl; simpa using this
        have y1 : wr.cell? ⟨g2, o2 + i * 3 + 1, none⟩ = some (.int .u8 (t' : Int)) := hr2 1 _ rfl
        have y2 : wr.cell? ⟨g2, o2 + i * 3 + 2, none⟩ = some (.int .u64 (b' : Int)) := hr2 2 _ rfl
        have hq := eqV nm t b nm' t' b'
        clear hr1 hr2 hi1 hi2
        have HA : Hid (∀ (q : Nat) (x y : Vr), q < i → (xs.map VT.vr)[q]? = some x → (ys.map VT.vr)[q]? = some y → samV x y = true) := hall
        have HXY : Hid ((xs.map VT.vr)[i]? = some (VT.vr ⟨nm, t, b⟩) ∧ (ys.map VT.vr)[i]? = some (VT.vr ⟨nm', t', b'⟩)) := ⟨by rw [List.getElem?_map, hx]; rfl, by rw [List.getElem?_map, hy]; rfl⟩
        clear hX hold hall HR hx hy
        cases hM : samV (VT.vr ⟨nm, t, b⟩) (VT.vr ⟨nm', t', b'⟩) with
        | false =>
          have hRf : R = false := by
            rw [hR.out, Bool.eq_false_iff]
            intro h
            have := ((eqL_iff _ _ _).1 h).2 i _ _ HXY.out.1 HXY.out.2
            rw [hM] at this
            cases this
          have hq' : ∀ u, (Op.equalIn 10000 56 (.agg #[.string nm, .int .u8 (t : Int), .int .u64 (b : Int)]) (.agg #[.string nm', .int .u8 (t' : Int), .int .u64 (b' : Int)])).run Tryz.prog u = .ok false u := fun u => by rw [hq]; exact congrArg (fun z => Result.ok z u) hM
          clear hq
          clear hM
          go_wp2_with fail
          go_quiet (fail)
          go_wp2_with fail
          go_ret
          exact ⟨by rw [hRf]; rfl, below_drN hbw _⟩
        | true =>
          have HM : Hid (samV (VT.vr ⟨nm, t, b⟩) (VT.vr ⟨nm', t', b'⟩) = true) := hM
          have hq' : ∀ u, (Op.equalIn 10000 56 (.agg #[.string nm, .int .u8 (t : Int), .int .u64 (b : Int)]) (.agg #[.string nm', .int .u8 (t' : Int), .int .u64 (b' : Int)])).run Tryz.prog u = .ok true u := fun u => by rw [hq]; exact congrArg (fun z => Result.ok z u) hM
          clear hq
          clear hM
          go_wp2_with fail
          go_quiet (fail)
          go_wp2_with fail
          go_roundw
          case rel =>
            refine ⟨i + 1, by go_num, by omega, below_drN hbw _, fun q u v hq hu hv => ?_⟩
            by_cases hqi : q = i
            · subst hqi
              rw [HXY.out.1] at hu
              rw [HXY.out.2] at hv
              cases hu
              cases hv
              exact HM.out
            · exact HA.out q u v (by omega) hu hv
          case measure => simp [intOf]; omega
      · have hin : i = n := by omega
        obtain ⟨hbw, hall⟩ := hX.out
        have hRt : R = true := by
          rw [hR.out, eqL_iff, List.length_map, List.length_map, ← hn.out, ← hn2.out]
          refine ⟨rfl, fun q u v hu hv => hall q u v ?_ hu hv⟩
          have := (List.getElem?_eq_some_iff.1 hu).1
          rw [List.length_map, ← hn.out] at this
          omega
        clear hX hall hin HR
        go_wp2
        go_ret
        exact ⟨by rw [hRt]; rfl, hbw⟩
  · have hne : ((n : Int) == (n2 : Int)) = false := by rw [beq_eq_false_iff_ne]; omega
    have hRf : R = false := by
      rw [hR.out, Bool.eq_false_iff]
      intro h
      have := (eqL_iff _ _ _).1 h
      rw [List.length_map, List.length_map, ← hn.out, ← hn2.out] at this
      exact hnn this.1
    clear hnn
    go_enter Tryz.func43, Tryz.ntmps43
    go_wp2_with fail
    go_ret
    exact ⟨by rw [hRf]; rfl, Below.refl _ _⟩
end Go.Proofs.YtcmahiphfpgadaaGreatDoor

/- tree.Expr. -/
namespace Go.Proofs.YtcmahiphfpgadaaGreatDoor
open Go.RowKit
set_option linter.unusedVariables false

theorem z54 : (Tryz.prog.info? 67).map (fun i => (i.zero, i.size)) = some (some (.agg [.pointer none, .slice none 0 0, .int .i64 0].toArray), 3) := by kernel_rfl
theorem i54 : (Tryz.prog.info? 67).map (·.size) = some 3 := by kernel_rfl
theorem one54 (m : Int) : ∀ v ∈ [Value.pointer none, .slice none 0 0, .int .i64 m], v.oneCell' = true := by
  intro v hv
  simp at hv
  rcases hv with rfl | rfl | rfl <;> rfl

theorem Txt.new {w : World} {g m B : Nat} (hB : B ≤ g) (h : At 67 w g [.pointer none, .slice none 0 0, .int .i64 (m : Int)]) : Txt B w g m [] :=
  ⟨[], .inl rfl, Nat.le_refl _, Raw.new hB h⟩

set_option maxRecDepth 100000 in
set_option maxHeartbeats 1600000 in
theorem expr4_any (e : ET) (B : Nat) (w : World) (h : e.In B w) (hBw : B ≤ w.heap.size) (hT : Tab w) (h16 : gB ≤ w.heap.size) (hlen : (exT e.ex).length ≤ 70368744177664) :
    Calls Tryz.prog 12 #[.agg e.cells.toArray] w fun r w' => r = .returned (.tuple #[.string ⟨(if mayE 32 e.ex then exT e.ex else []).toArray⟩, .int .i64 (if mayE 32 e.ex then 0 else 2)]) ∧ Below w.heap.size w w' := by
  have hM := fun w h hB hT h16 => mayExpr_any 32 e w B (by decide) h hB hT h16
  have hW : ∀ C g, gB ≤ C → mayE 32 e.ex = true → ExprW C g 9223372036854775807 e := fun C g hC hm => expr_any C g 9223372036854775807 (by decide) hC 32 e hm
  obtain ⟨M, hMM⟩ : ∃ M, Hid (M = mayE 32 e.ex) := ⟨_, (rfl : _ = mayE 32 e.ex)⟩
  rw [← hMM.out] at hM hW ⊢
  have HI : Hid (e.In B w ∧ Tab w) := ⟨h, hT⟩
  obtain ⟨X, hX⟩ : ∃ X, Hid (X = exT e.ex) := ⟨_, (rfl : exT e.ex = _)⟩
  rw [← hX.out] at hlen ⊢
  have HW : Hid (∀ C g, gB ≤ C → M = true → ExprW C g 9223372036854775807 e) := hW
  clear h hT hW
  go_enter Tryz.func12, Tryz.ntmps12
  go_wp2_with (first
    | ((with_reducible show wpList _ _ _ _ _ _); refine wpList_box_at rfl 34 (.tmp 0) rfl e.cells rfl ?_; intro w1 hA1 hb1 hs1; clear hs1)
    | ((with_reducible show wpList _ _ _ _ _ _); refine wpList_load_at (P := Tryz.prog) rfl 34 (.tmp 1) rfl w.heap.size rfl 34 e.cells hA1 _ Tryz.underlying34 rfl (by rw [ET.cells_len]; exact i29) ?_))
  refine (hM w1 (HI.out.1.old (Old.of_below hb1 hBw)) (by have := hb1.size; omega) (HI.out.2.below hb1 h16) (by have := hb1.size; omega)).mono ?_
  rintro r w2 ⟨rfl, hb2⟩
  have hA2 := hA1.below hb2
  have hw2 := hb1.trans (hb2.mono hb1.size)
  clear hM hA1 hb2 hb1
  cases M with
  | false =>
    go_wp2_with fail
    go_ret2
    exact ⟨rfl, hw2⟩
  | true =>
    go_wp2_with (first
      | ((with_reducible show wpList _ _ _ _ _ _); refine wpList_build_at (P := Tryz.prog) rfl 67 #[(1, .const (.int .i64 9223372036854775807))] rfl [.pointer none, .slice none 0 0, .int .i64 9223372036854775807] (by kernel_rfl) ?_)
      | ((with_reducible show wpList _ _ _ _ _ _); refine wpList_alloc_at rfl 67 rfl _ 3 z54 ?_; intro w3 hA3 hb3 hs3)
      | ((with_reducible show wpList _ _ _ _ _ _); refine wpList_store_at (P := Tryz.prog) rfl 67 (.tmp 4) (.tmp 8) rfl w2.heap.size [.pointer none, .slice none 0 0, .int .i64 9223372036854775807] rfl rfl 67 _ hA3 i54 rfl (one54 _) ?_; intro w4 hA4 hb4 hs4; refine Hid.out ?_))
    refine hidU ?_
    have hB4 : Below w2.heap.size w2 w4 := hb4.below hb3 (Nat.le_refl _) (by omega)
    have hw4 := hw2.trans (hB4.mono hw2.size)
    have hA24 := hA2.below hB4
    have hBw2 : w.heap.size ≤ w2.heap.size := hw2.size
    have hE := HW.out w2.heap.size w2.heap.size (by omega) trivial w4 [] ((HI.out.1.old (Old.of_below hw4 hBw)).up (by omega)) (Txt.new (Nat.le_refl _) hA4) (by have := hB4.size; omega) (HI.out.2.below hw4 h16) (by rw [← hX.out]; simpa using hlen)
    rw [← hX.out, List.nil_append] at hE
    clear HW hA3 hb3 hb4 hs3 hs4 hA2 hA4
    go_wp2_with (first
      | ((with_reducible show wpList _ _ _ _ _ _); refine wpList_load_at (P := Tryz.prog) rfl 34 (.tmp 1) rfl w.heap.size rfl 34 e.cells hA24 _ Tryz.underlying34 rfl (by rw [ET.cells_len]; exact i29) ?_))
    refine hE.mono ?_
    rintro r w5 ⟨rfl, hT5, hW5⟩
    obtain ⟨bs, hbs, hbl, hraw⟩ := hT5
    have hbX : bs = X := by
      rcases hbs with h | ⟨h, _⟩
      · exact h
      · omega
    subst hbX
    have hs5 : w2.heap.size ≤ w5.heap.size := by have := hB4.size; have := hW5.size; omega
    have hS := string_any w2.heap.size w2.heap.size _ bs w5 hraw hs5
    have hw5 : Below w.heap.size w w5 := hw4.trans ((hW5.below (Nat.le_refl _) (by have := hB4.size; omega)).mono hBw2)
    clear hE hW5 hraw hbs hA24 hw4 hB4
    go_wp2_with fail
    refine hS.mono ?_
    rintro r w6 ⟨rfl, hb6⟩
    go_wp2_with fail
    go_ret2
    exact ⟨rfl, hw5.trans (hb6.mono hBw2)⟩

end Go.Proofs.YtcmahiphfpgadaaGreatDoor

/- tree.Print. -/
namespace Go.Proofs.YtcmahiphfpgadaaGreatDoor
open Go.RowKit
set_option linter.unusedVariables false

mutual
theorem ST.In.up {B C : Nat} {w : World} (hBC : B ≤ C) : ∀ {s : ST}, s.In B w → s.In C w
  | .mk k nm e a1 c1 body a2 c2 els, h => by
    unfold ST.In at h ⊢
    obtain ⟨h1, h2, ⟨h3, h4, h5⟩, h6, h7, h8⟩ := h
    refine ⟨h1, h2.up hBC, ⟨h3, h4, ?_⟩, h6, h7, ?_⟩
    · rcases h5 with h5 | ⟨g, o, ha, hg, hr⟩
      · exact .inl h5
      · exact .inr ⟨g, o, ha, by omega, ST.Row.up hBC hr⟩
    · rcases h8 with h8 | ⟨g, o, ha, hg, hr⟩
      · exact .inl h8
      · exact .inr ⟨g, o, ha, by omega, ST.Row.up hBC hr⟩
theorem ST.Row.up {B C : Nat} {w : World} (hBC : B ≤ C) {g : Nat} : ∀ {ks : List ST} {o : Nat}, ST.Row B w g ks o → ST.Row C w g ks o
  | [], o, _ => trivial
  | e :: r, o, h => by
    unfold ST.Row at h ⊢
    exact ⟨h.1, ST.In.up hBC h.2.1, ST.Row.up hBC h.2.2⟩
end

theorem RowS.up {B C c : Nat} {w : World} {a : Option Addr} {ks : List ST} (hBC : B ≤ C) (h : RowS B w a c ks) : RowS C w a c ks := by
  obtain ⟨h1, h2, h | ⟨g, o, ha, hg, hr⟩⟩ := h
  · exact ⟨h1, h2, .inl h⟩
  · exact ⟨h1, h2, .inr ⟨g, o, ha, by omega, hr.up hBC⟩⟩
theorem RowV.up {B C c : Nat} {w : World} {a : Option Addr} {ks : List VT} (hBC : B ≤ C) (h : RowV B w a c ks) : RowV C w a c ks := by
  obtain ⟨h1, h2, h | ⟨g, o, ha, hg, hr⟩⟩ := h
  · exact ⟨h1, h2, .inl h⟩
  · exact ⟨h1, h2, .inr ⟨g, o, ha, by omega, hr⟩⟩
theorem RowN.up {B C c : Nat} {w : World} {a : Option Addr} {ks : List ByteArray} (hBC : B ≤ C) (h : RowN B w a c ks) : RowN C w a c ks := by
  obtain ⟨h1, h2, h | ⟨g, o, ha, hg, hr⟩⟩ := h
  · exact ⟨h1, h2, .inl h⟩
  · exact ⟨h1, h2, .inr ⟨g, o, ha, by omega, hr⟩⟩
theorem TT.In.up {B C : Nat} {w : World} (hBC : B ≤ C) {t : TT} (h : t.In B w) : t.In C w := ⟨h.1.up hBC, h.2.up hBC⟩
theorem RowT.up {B C c : Nat} {w : World} {a : Option Addr} {ks : List TT} (hBC : B ≤ C) (h : RowT B w a c ks) : RowT C w a c ks := by
  obtain ⟨h1, h2, h | ⟨g, o, ha, hg, hr⟩⟩ := h
  · exact ⟨h1, h2, .inl h⟩
  · exact ⟨h1, h2, .inr ⟨g, o, ha, by omega, fun i v hv => ⟨(hr i v hv).1, (hr i v hv).2.up hBC⟩⟩⟩
theorem PT.In.up {B C : Nat} {w : World} (hBC : B ≤ C) {p : PT} (h : p.In B w) : p.In C w := ⟨h.1.up hBC, h.2.1.up hBC, h.2.2.up hBC⟩
theorem PT.In.old {B : Nat} {w w' : World} (hO : Old B w w') {p : PT} (h : p.In B w) : p.In B w' := ⟨h.1.old hO, h.2.1.old hO, h.2.2.old hO⟩

theorem i46 : (Tryz.prog.info? 26).map (·.size) = some 3 := by kernel_rfl

set_option maxRecDepth 100000 in
set_option maxHeartbeats 1600000 in
theorem print8_any (p : PT) (B : Nat) (w : World) (h : p.In B w) (hBw : B ≤ w.heap.size) (hT : Tab w) (h16 : gB ≤ w.heap.size) (hlen : (pgT p.pg).length ≤ 70368744177664) :
    Calls Tryz.prog 10 #[.agg p.cells.toArray] w fun r w' => r = .returned (.tuple #[.string ⟨(if mayP p.pg = true ∧ (pgT p.pg).length ≤ 16384 then pgT p.pg else []).toArray⟩, .int .i64 (if mayP p.pg = true then (if (pgT p.pg).length ≤ 16384 then 0 else 3) else 2)]) ∧ Below w.heap.size w w' := by
  have hM := fun w h hB hT h16 => mayProgram_any p B w h hB hT h16
  have hW := fun C g (hC : gB ≤ C) hm w => program_any C g 16384 (by decide) hC p hm w []
  obtain ⟨M, hMM⟩ : ∃ M, Hid (M = mayP p.pg) := ⟨_, (rfl : _ = mayP p.pg)⟩
  rw [← hMM.out] at hM hW ⊢
  have HI : Hid (p.In B w ∧ Tab w) := ⟨h, hT⟩
  obtain ⟨X, hX⟩ : ∃ X, Hid (X = pgT p.pg) := ⟨_, (rfl : pgT p.pg = _)⟩
  rw [← hX.out] at hlen hW ⊢
  simp only [List.nil_append] at hW
  have HW : Hid (∀ C g, gB ≤ C → M = true → ∀ w, p.In C w → Txt C w g 16384 [] → C ≤ w.heap.size → Tab w → X.length ≤ 70368744177664 → Calls Tryz.prog 31 #[.pointer (some ⟨g, 0, none⟩), .agg p.cells.toArray] w fun r w' => r = .returned (.tuple #[]) ∧ Txt C w' g 16384 X ∧ Wr C g w w') := hW
  obtain ⟨cs, hcs⟩ : ∃ cs, Hid (cs = p.cells ∧ cs.length = 3) := ⟨_, (⟨rfl, rfl⟩ : p.cells = p.cells ∧ _)⟩
  rw [← hcs.out.1] at hM ⊢
  have hi46 : (Tryz.prog.info? 26).map (·.size) = some cs.length := by rw [hcs.out.2]; exact i46
  clear h hT hW
  obtain ⟨R, hR⟩ : ∃ R, Hid (R = (Value.tuple #[.string ⟨(if M = true ∧ X.length ≤ 16384 then X else []).toArray⟩, .int .i64 (if M = true then (if X.length ≤ 16384 then 0 else 3) else 2)])) := ⟨_, (rfl : _ = (Value.tuple #[.string ⟨(if M = true ∧ X.length ≤ 16384 then X else []).toArray⟩, .int .i64 (if M = true then (if X.length ≤ 16384 then 0 else 3) else 2)]))⟩
  rw [← hR.out]
  go_enter Tryz.func10, Tryz.ntmps10
  go_wp2_with (first
    | ((with_reducible show wpList _ _ _ _ _ _); refine wpList_box_at rfl 26 (.tmp 0) rfl cs rfl ?_; intro w1 hA1 hb1 hs1; clear hs1)
    | ((with_reducible show wpList _ _ _ _ _ _); refine wpList_load_at (P := Tryz.prog) rfl 26 (.tmp 1) rfl w.heap.size rfl 26 cs hA1 _ Tryz.underlying26 rfl hi46 ?_))
  refine (hM w1 (HI.out.1.old (Old.of_below hb1 hBw)) (by have := hb1.size; omega) (HI.out.2.below hb1 h16) (by have := hb1.size; omega)).mono ?_
  rintro r w2 ⟨rfl, hb2⟩
  have hA2 := hA1.below hb2
  have hw2 := hb1.trans (hb2.mono hb1.size)
  clear hM hA1 hb2 hb1
  cases M with
  | false =>
    go_wp2_with fail
    go_ret2
    exact ⟨by rw [hR.out]; rfl, hw2⟩
  | true =>
    go_wp2_with (first
      | ((with_reducible show wpList _ _ _ _ _ _); refine wpList_build_at (P := Tryz.prog) rfl 67 #[(1, .const (.int .i64 16384))] rfl [.pointer none, .slice none 0 0, .int .i64 16384] (by kernel_rfl) ?_)
      | ((with_reducible show wpList _ _ _ _ _ _); refine wpList_alloc_at rfl 67 rfl _ 3 z54 ?_; intro w3 hA3 hb3 hs3)
      | ((with_reducible show wpList _ _ _ _ _ _); refine wpList_store_at (P := Tryz.prog) rfl 67 (.tmp 4) (.tmp 8) rfl w2.heap.size [.pointer none, .slice none 0 0, .int .i64 16384] rfl rfl 67 _ hA3 i54 rfl (one54 _) ?_; intro w4 hA4 hb4 hs4; refine Hid.out ?_))
    refine hidU ?_
    have hB4 : Below w2.heap.size w2 w4 := hb4.below hb3 (Nat.le_refl _) (by omega)
    have hw4 := hw2.trans (hB4.mono hw2.size)
    have hA24 := hA2.below hB4
    have hBw2 : w.heap.size ≤ w2.heap.size := hw2.size
    have hE := HW.out w2.heap.size w2.heap.size (by omega) trivial w4 ((HI.out.1.old (Old.of_below hw4 hBw)).up (by omega)) (Txt.new (Nat.le_refl _) hA4) (by have := hB4.size; omega) (HI.out.2.below hw4 h16) hlen
    rw [← hcs.out.1] at hE
    clear HW hA3 hb3 hb4 hs3 hs4 hA2 hA4
    go_wp2_with (first
      | ((with_reducible show wpList _ _ _ _ _ _); refine wpList_load_at (P := Tryz.prog) rfl 26 (.tmp 1) rfl w.heap.size rfl 26 cs hA24 _ Tryz.underlying26 rfl hi46 ?_))
    refine hE.mono ?_
    rintro r w5 ⟨rfl, hT5, hW5⟩
    obtain ⟨bs, hbs, hbl, hraw⟩ := hT5
    have hs5 : w2.heap.size ≤ w5.heap.size := by have := hB4.size; have := hW5.size; omega
    have hS := string_any w2.heap.size w2.heap.size _ bs w5 hraw hs5
    have hN := len_any w2.heap.size w2.heap.size _ bs w5 hraw
    have hw5 : Below w.heap.size w w5 := hw4.trans ((hW5.below (Nat.le_refl _) (by have := hB4.size; omega)).mono hBw2)
    have hbl' : bs.length ≤ 70368744177664 := by omega
    clear hE hW5 hraw hA24 hw4 hB4
    go_wp2_with fail
    refine hN.mono ?_
    rintro r w6 ⟨rfl, rfl⟩
    clear hN
    by_cases hc : 16384 < bs.length
    · have hXl : ¬ X.length ≤ 16384 := by omega
      go_wp2_with fail
      go_ret2
      exact ⟨by rw [hR.out]; simp [hXl], hw5⟩
    · have hbX : bs = X := by
        rcases hbs with h | ⟨h, _⟩
        · exact h
        · omega
      have hXl : X.length ≤ 16384 := by rw [← hbX]; omega
      go_wp2_with fail
      refine hS.mono ?_
      rintro r w7 ⟨rfl, hb7⟩
      go_wp2_with fail
      go_ret2
      refine ⟨?_, hw5.trans (hb7.mono hBw2)⟩
      rw [hR.out]
      simp [hXl]

end Go.Proofs.YtcmahiphfpgadaaGreatDoor

/- Copies: where they lie, and laws of a made row. -/
namespace Go.Proofs.YtcmahiphfpgadaaGreatDoor
open Go.RowKit
set_option linter.unusedVariables false

mutual
/-- All rows lie in blocks from A on. -/
def ET.Up (A : Nat) : ET → Prop
  | .mk _ _ _ _ a _ ks => (ks = [] ∨ ∃ g o, a = some ⟨g, o, none⟩ ∧ A ≤ g) ∧ ET.Ups A ks
def ET.Ups (A : Nat) : List ET → Prop
  | [] => True
  | e :: r => e.Up A ∧ ET.Ups A r
end
mutual
def ST.Up (A : Nat) : ST → Prop
  | .mk _ _ e a1 _ b1 a2 _ b2 => e.Up A ∧ ((b1 = [] ∨ ∃ g o, a1 = some ⟨g, o, none⟩ ∧ A ≤ g) ∧ ST.Ups A b1) ∧ (b2 = [] ∨ ∃ g o, a2 = some ⟨g, o, none⟩ ∧ A ≤ g) ∧ ST.Ups A b2
def ST.Ups (A : Nat) : List ST → Prop
  | [] => True
  | e :: r => e.Up A ∧ ST.Ups A r
end
def VT.Up (A : Nat) (v : VT) : Prop := True
def VT.Ups (A : Nat) (l : List VT) : Prop := True
def TT.Up (A : Nat) (t : TT) : Prop := (t.locals = [] ∨ ∃ g o, t.a1 = some ⟨g, o, none⟩ ∧ A ≤ g) ∧ (t.body = [] ∨ ∃ g o, t.a2 = some ⟨g, o, none⟩ ∧ A ≤ g) ∧ ST.Ups A t.body
def TT.Ups (A : Nat) (l : List TT) : Prop := ∀ t ∈ l, t.Up A

theorem ET.Ups.of {A : Nat} : ∀ {l : List ET}, (∀ e ∈ l, e.Up A) → ET.Ups A l
  | [], _ => trivial
  | e :: r, h => by unfold ET.Ups; exact ⟨h e List.mem_cons_self, ET.Ups.of fun x hx => h x (List.mem_cons_of_mem _ hx)⟩
theorem ST.Ups.of {A : Nat} : ∀ {l : List ST}, (∀ e ∈ l, e.Up A) → ST.Ups A l
  | [], _ => trivial
  | e :: r, h => by unfold ST.Ups; exact ⟨h e List.mem_cons_self, ST.Ups.of fun x hx => h x (List.mem_cons_of_mem _ hx)⟩
theorem VT.Ups.of {A : Nat} {l : List VT} (h : ∀ e ∈ l, e.Up A) : VT.Ups A l := trivial
theorem TT.Ups.of {A : Nat} {l : List TT} (h : ∀ e ∈ l, e.Up A) : TT.Ups A l := h

theorem at_mono {A B : Nat} (h : A ≤ B) {α : Type} {l : List α} {a : Option Addr} (k : l = [] ∨ ∃ g o, a = some ⟨g, o, none⟩ ∧ B ≤ g) : l = [] ∨ ∃ g o, a = some ⟨g, o, none⟩ ∧ A ≤ g := by
  rcases k with k | ⟨g, o, k1, k2⟩
  · exact .inl k
  · exact .inr ⟨g, o, k1, by omega⟩
mutual
theorem ET.Up.mono {A B : Nat} (h : A ≤ B) : ∀ {e : ET}, e.Up B → e.Up A
  | .mk _ _ _ _ a _ ks, k => by
    unfold ET.Up at k ⊢
    exact ⟨at_mono h k.1, ET.Ups.mono h k.2⟩
theorem ET.Ups.mono {A B : Nat} (h : A ≤ B) : ∀ {l : List ET}, ET.Ups B l → ET.Ups A l
  | [], _ => trivial
  | e :: r, k => by unfold ET.Ups at k ⊢; exact ⟨ET.Up.mono h k.1, ET.Ups.mono h k.2⟩
end
mutual
theorem ST.Up.mono {A B : Nat} (h : A ≤ B) : ∀ {e : ST}, e.Up B → e.Up A
  | .mk _ _ e a1 _ b1 a2 _ b2, k => by
    unfold ST.Up at k ⊢
    exact ⟨k.1.mono h, ⟨at_mono h k.2.1.1, ST.Ups.mono h k.2.1.2⟩, at_mono h k.2.2.1, ST.Ups.mono h k.2.2.2⟩
theorem ST.Ups.mono {A B : Nat} (h : A ≤ B) : ∀ {l : List ST}, ST.Ups B l → ST.Ups A l
  | [], _ => trivial
  | e :: r, k => by unfold ST.Ups at k ⊢; exact ⟨ST.Up.mono h k.1, ST.Ups.mono h k.2⟩
end
theorem VT.Up.mono {A B : Nat} (h : A ≤ B) {e : VT} (k : e.Up B) : e.Up A := trivial
theorem TT.Up.mono {A B : Nat} (h : A ≤ B) {e : TT} (k : e.Up B) : e.Up A := ⟨at_mono h k.1, at_mono h k.2.1, k.2.2.mono h⟩

/-- Blocks from A to B stand. -/
def Mid (A B : Nat) (w w' : World) : Prop := ∀ k, A ≤ k → k < B → w'.heap[k]? = w.heap[k]?
theorem Mid.range {A B g o : Nat} {w w' : World} {cs : List Value} (h : Mid A B w w') (hA : A ≤ g) (hB : g < B) (hr : w.rangeAt g o cs) : w'.rangeAt g o cs := fun j v hj => by
  rw [World.cell?_of_block (w := w) (w' := w') (h g hA hB)]
  exact hr j v hj
mutual
theorem ET.In.keep {A B : Nat} {w w' : World} (hM : Mid A B w w') : ∀ {e : ET}, e.In B w → e.Up A → e.In B w'
  | .mk op t b nm a c ks, h, u => by
    unfold ET.In at h ⊢
    unfold ET.Up at u
    obtain ⟨h1, h2, h3, h4, h5, h6⟩ := h
    refine ⟨h1, h2, h3, h4, h5, ?_⟩
    rcases h6 with h6 | ⟨g, o, ha, hg, hr⟩
    · exact .inl h6
    · rcases u.1 with hk | ⟨g', o', ha', hg'⟩
      · exact .inl hk
      · rw [ha] at ha'
        cases ha'
        exact .inr ⟨g, o, ha, hg, ET.Row.keep hM hg' hg hr u.2⟩
theorem ET.Row.keep {A B : Nat} {w w' : World} (hM : Mid A B w w') {g : Nat} (hA : A ≤ g) (hg : g < B) : ∀ {ks : List ET} {o : Nat}, ET.Row B w g ks o → ET.Ups A ks → ET.Row B w' g ks o
  | [], o, _, _ => trivial
  | e :: r, o, h, u => by
    unfold ET.Row at h ⊢
    unfold ET.Ups at u
    exact ⟨hM.range hA hg h.1, ET.In.keep hM h.2.1 u.1, ET.Row.keep hM hA hg h.2.2 u.2⟩
end
mutual
theorem ST.In.keep {A B : Nat} {w w' : World} (hM : Mid A B w w') : ∀ {e : ST}, e.In B w → e.Up A → e.In B w'
  | .mk k nm e a1 c1 b1 a2 c2 b2, h, u => by
    unfold ST.In at h ⊢
    unfold ST.Up at u
    obtain ⟨h1, h2, ⟨h3, h4, h5⟩, h6, h7, h8⟩ := h
    refine ⟨h1, h2.keep hM u.1, ⟨h3, h4, ?_⟩, h6, h7, ?_⟩
    · rcases h5 with h5 | ⟨g, o, ha, hg, hr⟩
      · exact .inl h5
      · rcases u.2.1.1 with hk | ⟨g', o', ha', hg'⟩
        · exact .inl hk
        · rw [ha] at ha'
          cases ha'
          exact .inr ⟨g, o, ha, hg, ST.Row.keep hM hg' hg hr u.2.1.2⟩
    · rcases h8 with h8 | ⟨g, o, ha, hg, hr⟩
      · exact .inl h8
      · rcases u.2.2.1 with hk | ⟨g', o', ha', hg'⟩
        · exact .inl hk
        · rw [ha] at ha'
          cases ha'
          exact .inr ⟨g, o, ha, hg, ST.Row.keep hM hg' hg hr u.2.2.2⟩
theorem ST.Row.keep {A B : Nat} {w w' : World} (hM : Mid A B w w') {g : Nat} (hA : A ≤ g) (hg : g < B) : ∀ {ks : List ST} {o : Nat}, ST.Row B w g ks o → ST.Ups A ks → ST.Row B w' g ks o
  | [], o, _, _ => trivial
  | e :: r, o, h, u => by
    unfold ST.Row at h ⊢
    unfold ST.Ups at u
    exact ⟨hM.range hA hg h.1, ST.In.keep hM h.2.1 u.1, ST.Row.keep hM hA hg h.2.2 u.2⟩
end
theorem VT.In.keep {A B : Nat} {w w' : World} (hM : Mid A B w w') {e : VT} (h : e.In B w) (u : e.Up A) : e.In B w' := h
theorem VT.In.up {B C : Nat} {w : World} (hBC : B ≤ C) {v : VT} (h : v.In B w) : v.In C w := h
theorem TT.In.keep {A B : Nat} {w w' : World} (hM : Mid A B w w') {e : TT} (h : e.In B w) (u : e.Up A) : e.In B w' := by
  obtain ⟨⟨l1, l2, l3⟩, b1, b2, b3⟩ := h
  obtain ⟨u1, u2, u3⟩ := u
  refine ⟨⟨l1, l2, ?_⟩, b1, b2, ?_⟩
  · rcases l3 with l3 | ⟨g, o, ha, hg, hr⟩
    · exact .inl l3
    · rcases u1 with hk | ⟨g', o', ha', hg'⟩
      · exact .inl hk
      · rw [ha] at ha'
        cases ha'
        exact .inr ⟨g, o, ha, hg, fun i v hv => ⟨hM.range hg' hg (hr i v hv).1, (hr i v hv).2⟩⟩
  · rcases b3 with b3 | ⟨g, o, ha, hg, hr⟩
    · exact .inl b3
    · rcases u2 with hk | ⟨g', o', ha', hg'⟩
      · exact .inl hk
      · rw [ha] at ha'
        cases ha'
        exact .inr ⟨g, o, ha, hg, ST.Row.keep hM hg' hg hr u3⟩

theorem ET.Row.of {B g : Nat} {w : World} : ∀ {ks : List ET} {o : Nat}, (∀ (i : Nat) (e : ET), ks[i]? = some e → w.rangeAt g (o + i * 5) e.cells ∧ e.In B w) → ET.Row B w g ks o
  | [], o, _ => trivial
  | e :: r, o, h => by
    unfold ET.Row
    refine ⟨by simpa using (h 0 e rfl).1, (h 0 e rfl).2, ET.Row.of fun i x hx => ?_⟩
    have := h (i + 1) x (by simpa using hx)
    rwa [show o + (i + 1) * 5 = o + 5 + i * 5 by omega] at this
theorem ST.Row.of {B g : Nat} {w : World} : ∀ {ks : List ST} {o : Nat}, (∀ (i : Nat) (e : ST), ks[i]? = some e → w.rangeAt g (o + i * 9) e.cells ∧ e.In B w) → ST.Row B w g ks o
  | [], o, _ => trivial
  | e :: r, o, h => by
    unfold ST.Row
    refine ⟨by simpa using (h 0 e rfl).1, (h 0 e rfl).2, ST.Row.of fun i x hx => ?_⟩
    have := h (i + 1) x (by simpa using hx)
    rwa [show o + (i + 1) * 9 = o + 9 + i * 9 by omega] at this
theorem RowE.of {B g c : Nat} {w : World} {ks : List ET} (h1 : ks.length ≤ 1048576) (h2 : ks.length ≤ c) (hg : g < B) (h : ∀ (i : Nat) (e : ET), ks[i]? = some e → w.rangeAt g (i * 5) e.cells ∧ e.In B w) : RowE B w (some ⟨g, 0, none⟩) c ks :=
  ⟨h1, h2, .inr ⟨g, 0, rfl, hg, ET.Row.of fun i e he => by rw [Nat.zero_add]; exact h i e he⟩⟩
theorem RowS.of {B g c : Nat} {w : World} {ks : List ST} (h1 : ks.length ≤ 1048576) (h2 : ks.length ≤ c) (hg : g < B) (h : ∀ (i : Nat) (e : ST), ks[i]? = some e → w.rangeAt g (i * 9) e.cells ∧ e.In B w) : RowS B w (some ⟨g, 0, none⟩) c ks :=
  ⟨h1, h2, .inr ⟨g, 0, rfl, hg, ST.Row.of fun i e he => by rw [Nat.zero_add]; exact h i e he⟩⟩
theorem RowV.of {B g c : Nat} {w : World} {ks : List VT} (h1 : ks.length ≤ 1048576) (h2 : ks.length ≤ c) (hg : g < B) (h : ∀ (i : Nat) (e : VT), ks[i]? = some e → w.rangeAt g (i * 3) e.cells ∧ e.In B w) : RowV B w (some ⟨g, 0, none⟩) c ks :=
  ⟨h1, h2, .inr ⟨g, 0, rfl, hg, fun i e he => by rw [Nat.zero_add]; exact h i e he⟩⟩
theorem RowT.of {B g c : Nat} {w : World} {ks : List TT} (h1 : ks.length ≤ 1048576) (h2 : ks.length ≤ c) (hg : g < B) (h : ∀ (i : Nat) (e : TT), ks[i]? = some e → w.rangeAt g (i * 3) e.cells ∧ e.In B w) : RowT B w (some ⟨g, 0, none⟩) c ks :=
  ⟨h1, h2, .inr ⟨g, 0, rfl, hg, fun i e he => by rw [Nat.zero_add]; exact h i e he⟩⟩

theorem But.setCells {g : Nat} {a : World} : ∀ (vs : List Value) (o : Nat) (w : World), But g a w → But g a (w.setCells g o vs)
  | [], o, w, h => h
  | v :: vs, o, w, h => But.setCells vs (o + 1) _ (h.setCell o v)
theorem size_setCells (g : Nat) : ∀ (vs : List Value) (o : Nat) (w : World), (w.setCells g o vs).heap.size = w.heap.size
  | [], o, w => rfl
  | v :: vs, o, w => by
    show ((w.setCell ⟨g, o, none⟩ v).setCells g (o + 1) vs).heap.size = _
    rw [size_setCells]
    simp

section
variable {P : Program} {ops : Array Oper} {rest : List Oper} {o : Oper} {a : Act} {w : World} {Q : Exit → Act → World → Prop}
/-- A row is made. -/
theorem wpList_make_at (hgd : o.guard = none) (l c : Operand) (t : TypeId) (ho : o.op = .makeSlice t l c) (e : TypeId) (z : Value) (size bytes : Nat) (ht : P.underlying t = some (.slice e)) (hinfo : (P.info? e).map (fun i => (i.zero, i.size, i.bytes)) = some (some z, size, bytes))
    (n : Nat) (hl : a.eval l = .int .i64 (n : Int)) (hc : a.eval c = .int .i64 (n : Int)) (hb : bytes * n ≤ 281474976710656) (h63 : n ≤ 9223372036854775807)
    (h : ∀ w', w'.there w.heap.size 0 (n * size) → Below w.heap.size w w' → w.heap.size < w'.heap.size → wpList P ops Q rest (a.put o.dst (.slice (some ⟨w.heap.size, 0, none⟩) n n)) w') :
    wpList P ops Q (o :: rest) a w := by
  obtain ⟨i, hi, hzz⟩ := Option.map_eq_some_iff.1 hinfo
  simp only [Prod.mk.injEq] at hzz
  obtain ⟨hz, hs, hbb⟩ := hzz
  have hb' : (i.bytes : Int) * (n : Int) ≤ 281474976710656 := by
    have h : ((i.bytes * n : Nat) : Int) ≤ 281474976710656 := by rw [hbb]; omega
    rwa [Int.natCast_mul] at h
  have hr := run_make (P := P) w t e i z ht hi hz .i64 .i64 n n (by omega) (Int.le_refl _) hb' (by omega)
  refine wpList_plain hgd fun K hK' => ?_
  unfold Oper.wp
  simp [execOp, ho, hl, hc, hr, Result.andThen]
  refine hK' _ _ (h _ ?_ ((Below.refl _ w).alloc (Nat.le_refl _) _) (by simp))
  intro j hj
  have hA : At e (w.alloc (.cells (madeCells z.cells (n * i.size)) e)) w.heap.size (madeCells z.cells (n * i.size)).toList := _root_.Go.heap_alloc_new w _
  exact hA.there 0 (n * size) (by rw [Nat.zero_add, Array.length_toList, size_madeCells, hs]; exact Nat.le_refl _) j hj
end
end Go.Proofs.YtcmahiphfpgadaaGreatDoor
