/- Joined texts of the proof. -/
import Derived.Test.YtcmahiphfpgadaaDoorJ15
import Derived.Test.YtcmahiphfpgadaaDoorJ1

/- tree.sameExpr. -/
namespace Go.Proofs.YtcmahiphfpgadaaDoor
open Go.RowKit
set_option linter.unusedVariables false

mutual
/-- Whether two expressions are the same. -/
def samX : Ex → Ex → Bool
  | .mk op t b nm ks, .mk op' t' b' nm' ks' => decide (op = op') && (decide (t = t' ∧ b = b') && (decide (nm = nm') && samL ks ks'))
def samL : List Ex → List Ex → Bool
  | [], [] => true
  | x :: r, y :: s => samX x y && samL r s
  | _, _ => false
end

theorem samL_iff : ∀ (xs ys : List Ex), samL xs ys = true ↔ xs.length = ys.length ∧ ∀ (i : Nat) (x y : Ex), xs[i]? = some x → ys[i]? = some y → samX x y = true
  | [], [] => by simp [samL]
  | [], y :: s => by simp [samL]
  | x :: r, [] => by simp [samL]
  | x :: r, y :: s => by
    rw [samL, Bool.and_eq_true, samL_iff r s]
    constructor
    · rintro ⟨h1, h2, h3⟩
      refine ⟨by simp [h2], fun i a b ha hb => ?_⟩
      cases i with
      | zero => simp at ha hb; subst ha hb; exact h1
      | succ i => exact h3 i a b (by simpa using ha) (by simpa using hb)
    · rintro ⟨h1, h2⟩
      exact ⟨h2 0 x y rfl rfl, by simpa using h1, fun i a b ha hb => h2 (i + 1) a b (by simpa using ha) (by simpa using hb)⟩

/-- A row of expressions in memory. -/
def RowE (B : Nat) (w : World) (a : Option Addr) (c : Nat) (ks : List ET) : Prop := ks.length ≤ 1048576 ∧ ks.length ≤ c ∧ (ks = [] ∨ ∃ g o, a = some ⟨g, o, none⟩ ∧ g < B ∧ ET.Row B w g ks o)

theorem RowE.old {B c : Nat} {w w' : World} {a : Option Addr} {ks : List ET} (h : RowE B w a c ks) (hO : Old B w w') : RowE B w' a c ks := by
  obtain ⟨h1, h2, h | ⟨g, o, ha, hg, hr⟩⟩ := h
  · exact ⟨h1, h2, .inl h⟩
  · exact ⟨h1, h2, .inr ⟨g, o, ha, hg, ET.Row.old hO hg hr⟩⟩

/-- One element of it. -/
theorem RowE.at {B c : Nat} {w : World} {a : Option Addr} {ks : List ET} (h : RowE B w a c ks) (i : Nat) (k : ET) (hk : ks[i]? = some k) : ∃ g o, a = some ⟨g, o, none⟩ ∧ g < B ∧ w.rangeAt g (o + i * 5) k.cells ∧ k.In B w := by
  obtain ⟨_, _, h | ⟨g, o, ha, hg, hr⟩⟩ := h
  · rw [h] at hk; simp at hk
  · obtain ⟨h1, h2⟩ := hr.at i k hk
    exact ⟨g, o, ha, hg, h1, h2⟩

/-- What telling two expressions apart does. -/
def SameW (B : Nat) (x : ET) : Prop := ∀ (y : ET) (w : World), x.In B w → y.In B w → B ≤ w.heap.size → Calls Tryd.prog 80 #[.agg x.cells.toArray, .agg y.cells.toArray] w fun r w' => r = .returned (.bool (samX x.ex y.ex)) ∧ Below w.heap.size w w'

set_option maxRecDepth 100000 in
set_option maxHeartbeats 3200000 in
theorem equalE_of (B : Nat) (xs ys : List ET) (hS : ∀ x ∈ xs, SameW B x) (a1 a2 : Option Addr) (c1 c2 : Nat) (w : World) (h1 : RowE B w a1 c1 xs) (h2 : RowE B w a2 c2 ys) (hBw : B ≤ w.heap.size) :
    Calls Tryd.prog 81 #[.slice a1 xs.length c1, .slice a2 ys.length c2, .func (.func 80) #[] #[]] w fun r w' => r = .returned (.bool (samL (xs.map ET.ex) (ys.map ET.ex))) ∧ Below w.heap.size w w' := by
  obtain ⟨R, hR⟩ : ∃ R, Hid (R = samL (xs.map ET.ex) (ys.map ET.ex)) := ⟨_, (rfl : _ = samL _ _)⟩
  rw [← hR.out]
  obtain ⟨n, hn⟩ : ∃ n, Hid (n = xs.length) := ⟨_, (rfl : xs.length = _)⟩
  obtain ⟨n2, hn2⟩ : ∃ n, Hid (n = ys.length) := ⟨_, (rfl : ys.length = _)⟩
  have hl1 := h1.1
  have hl2 := h2.1
  have hk1 := h1.2.1
  have hk2 := h2.2.1
  rw [← hn.out] at hl1 hk1 ⊢
  rw [← hn2.out] at hl2 hk2 ⊢
  have HS : Hid (∀ x ∈ xs, SameW B x) := hS
  have HR : Hid (RowE B w a1 c1 xs ∧ RowE B w a2 c2 ys) := ⟨h1, h2⟩
  clear hS h1 h2
  by_cases hnn : n = n2
  · subst hnn
    go_enter Tryd.func81, Tryd.ntmps81
    go_wp2_with fail
    go_loopw [17] (fun j wr => ∃ i : Nat, j = .int .i64 (i : Int) ∧ i ≤ n ∧ Hid (Below w.heap.size w wr ∧ ∀ (q : Nat) (x y : Ex), q < i → (xs.map ET.ex)[q]? = some x → (ys.map ET.ex)[q]? = some y → samX x y = true)) (fun j _ => n - (intOf j).toNat)
    case atStart => exact ⟨0, rfl, by omega, Below.refl _ _, fun q x y hq => by omega⟩
    case round =>
      obtain ⟨i, rfl, hi, hX⟩ := hrel
      by_cases hc : i < n
      · obtain ⟨x, hx⟩ : ∃ k, xs[i]? = some k := ⟨xs[i]'(by rw [← hn.out]; exact hc), by rw [List.getElem?_eq_getElem]⟩
        obtain ⟨y, hy⟩ : ∃ k, ys[i]? = some k := ⟨ys[i]'(by rw [← hn2.out]; exact hc), by rw [List.getElem?_eq_getElem]⟩
        obtain ⟨hbw, hall⟩ := hX.out
        have hold : Old B w wr := Old.of_below hbw hBw
        obtain ⟨g1, o1, rfl, hg1, hr1, hx1⟩ := (HR.out.1.old hold).at i x hx
        obtain ⟨g2, o2, rfl, hg2, hr2, hy1⟩ := (HR.out.2.old hold).at i y hy
        have HK : Hid (x.In B wr ∧ y.In B wr ∧ B ≤ wr.heap.size ∧ wr.rangeAt g2 (o2 + i * 5) y.cells) := ⟨hx1, hy1, by have := hbw.size; omega, hr2⟩
        clear hX hx1 hy1 hr2 hold HR
        go_wp2_with (first
          | ((with_reducible show wpList _ _ _ _ _ _); refine wpList_load_mid (P := Tryd.prog) rfl 29 (.tmp 20) rfl g1 (o1 + i * 5) (by first | rfl | (simp; done)) x.cells _ hr1 Tryd.underlying29 rfl (by rw [ET.cells_len]; exact i29) ?_)
          | ((with_reducible show wpList _ _ _ _ _ _); refine wpList_alloc_at rfl 29 rfl (ex5 0 0 0 ⟨#[]⟩ (.slice none 0 0)) 5 z29 ?_; intro w2 hA2 hb2 hs2)
          | ((with_reducible show wpList _ _ _ _ _ _); refine wpList_store_at (P := Tryd.prog) rfl 29 (.tmp 8) (.tmp 21) rfl wr.heap.size x.cells rfl rfl 29 _ hA2 (by rw [ET.cells_len]; exact i29) (by rw [ET.cells_len]; rfl) x.one ?_; intro w3 hA3 hb3 hs3; refine Hid.out ?_))
        refine hidU ?_
        have hB3 : Below wr.heap.size wr w3 := hb3.below hb2 (Nat.le_refl _) (by omega)
        obtain ⟨q1, q2, q3, q4⟩ := HK.out
        have hold3 : Old B wr w3 := Old.of_below hB3 q3
        have hr3 : w3.rangeAt g2 (o2 + i * 5) y.cells := Old.range hold3 hg2 q4
        have hw3 : Below w.heap.size w w3 := hbw.trans (hB3.mono hbw.size)
        have hA3' := hA3
        clear hb3 hb2 hA2 hr1 hs2 hs3 q4 hA3
        go_wp2_with (first
          | ((with_reducible show wpList _ _ _ _ _ _); refine wpList_load_mid (P := Tryd.prog) rfl 29 (.tmp 24) rfl g2 (o2 + i * 5) (by first | rfl | (simp; done)) y.cells _ hr3 Tryd.underlying29 rfl (by rw [ET.cells_len]; exact i29) ?_)
          | ((with_reducible show wpList _ _ _ _ _ _); refine wpList_alloc_at rfl 29 rfl (ex5 0 0 0 ⟨#[]⟩ (.slice none 0 0)) 5 z29 ?_; intro w4 hA4 hb4 hs4)
          | ((with_reducible show wpList _ _ _ _ _ _); refine wpList_store_at (P := Tryd.prog) rfl 29 (.tmp 9) (.tmp 25) rfl w3.heap.size y.cells rfl rfl 29 _ hA4 (by rw [ET.cells_len]; exact i29) (by rw [ET.cells_len]; rfl) y.one ?_; intro w5 hA5 hb5 hs5; refine Hid.out ?_))
        refine hidU ?_
        have hB5 : Below w3.heap.size w3 w5 := hb5.below hb4 (Nat.le_refl _) (by omega)
        have hA35 := hA3'.below hB5
        have hw5 : Below w.heap.size w w5 := hw3.trans (hB5.mono hw3.size)
        have hold5 : Old B wr w5 := hold3.trans (Old.of_below hB5 (by have := hB3.size; omega))
        have hI := HS.out x (List.mem_of_getElem? hx) y w5 (q1.old hold5) (q2.old hold5) (by have := hw5.size; omega)
        clear hb5 hb4 hA4 hr3 hs4 hs5 hA3' q1 q2 hold3 hold5 HK HS
        go_wp2_with (first
          | ((with_reducible show wpList _ _ _ _ _ _); refine wpList_load_at (P := Tryd.prog) rfl 29 (.tmp 8) rfl wr.heap.size rfl 29 x.cells hA35 _ Tryd.underlying29 rfl (by rw [ET.cells_len]; exact i29) ?_)
          | ((with_reducible show wpList _ _ _ _ _ _); refine wpList_load_at (P := Tryd.prog) rfl 29 (.tmp 9) rfl w3.heap.size rfl 29 y.cells hA5 _ Tryd.underlying29 rfl (by rw [ET.cells_len]; exact i29) ?_))
        refine hI.mono ?_
        rintro r w6 ⟨rfl, hb6⟩
        have hw6 : Below w.heap.size w w6 := hw5.trans (hb6.mono hw5.size)
        clear hI hb6 hw5 hw3 hB3 hB5 hA35 hA5
        cases hM : samX x.ex y.ex with
        | false =>
          have hRf : R = false := by
            rw [hR.out, Bool.eq_false_iff]
            intro h
            have := ((samL_iff _ _).1 h).2 i x.ex y.ex (by rw [List.getElem?_map, hx]; rfl) (by rw [List.getElem?_map, hy]; rfl)
            rw [hM] at this
            cases this
          clear hM
          go_wp2
          go_ret
          exact ⟨by rw [hRf]; rfl, hw6⟩
        | true =>
          go_wp2
          go_roundw
          case rel =>
            refine ⟨i + 1, by go_num, by omega, hw6, fun q u v hq hu hv => ?_⟩
            by_cases hqi : q = i
            · subst hqi
              rw [List.getElem?_map, hx] at hu
              rw [List.getElem?_map, hy] at hv
              simp at hu hv
              subst hu hv
              exact hM
            · exact hall q u v (by omega) hu hv
          case measure => simp [intOf]; omega
      · have hin : i = n := by omega
        obtain ⟨hbw, hall⟩ := hX.out
        have hRt : R = true := by
          rw [hR.out, samL_iff, List.length_map, List.length_map, ← hn.out, ← hn2.out]
          refine ⟨rfl, fun q u v hu hv => hall q u v ?_ hu hv⟩
          have := (List.getElem?_eq_some_iff.1 hu).1
          rw [List.length_map, ← hn.out] at this
          omega
        clear hX hall hin HR HS
        go_wp2
        go_ret
        exact ⟨by rw [hRt]; rfl, hbw⟩
  · have hne : ((n : Int) == (n2 : Int)) = false := by rw [beq_eq_false_iff_ne]; omega
    have hRf : R = false := by
      rw [hR.out, Bool.eq_false_iff]
      intro h
      have := (samL_iff _ _).1 h
      rw [List.length_map, List.length_map, ← hn.out, ← hn2.out] at this
      exact hnn this.1
    clear hnn
    go_enter Tryd.func81, Tryd.ntmps81
    go_wp2_with fail
    go_ret
    exact ⟨by rw [hRf]; rfl, Below.refl _ _⟩


theorem eq26g (t b t' b' : Nat) (u : World) : (Op.equalIn 10000 26 (.agg #[.int .u8 (t : Int), .int .u64 (b : Int)]) (.agg #[.int .u8 (t' : Int), .int .u64 (b' : Int)])).run Tryd.prog u = .ok (decide (t = t' ∧ b = b')) u := by
  by_cases h1 : t = t'
  · subst h1
    by_cases h2 : b = b'
    · subst h2
      go_simp
    · have e2 : ((b : Int) == (b' : Int)) = false := by rw [beq_eq_false_iff_ne]; omega
      go_simp
  · have e1 : ((t : Int) == (t' : Int)) = false := by rw [beq_eq_false_iff_ne]; omega
    go_simp

theorem ET.sz {op t b c : Nat} {nm : ByteArray} {a : Option Addr} {ks : List ET} {x : ET} (h : x ∈ ks) : SizeOf.sizeOf x < SizeOf.sizeOf (ET.mk op t b nm a c ks) := by
  have := List.sizeOf_lt_of_mem h
  simp only [ET.mk.sizeOf_spec]
  omega

set_option maxRecDepth 100000 in
set_option maxHeartbeats 3200000 in
theorem sameExpr_any (B : Nat) (N : Nat) : ∀ x : ET, SizeOf.sizeOf x < N → SameW B x := by
  induction N with
  | zero => intro x h; omega
  | succ N ih =>
    rintro ⟨op, t, b, nm, a, c, ks⟩ hN ⟨op', t', b', nm', a', c', ks'⟩ w hx hy hBw
    have hS : ∀ k ∈ ks, SameW B k := fun k hk => ih k (by have := ET.sz (op := op) (t := t) (b := b) (c := c) (nm := nm) (a := a) hk; omega)
    unfold ET.In at hx hy
    obtain ⟨_, _, _, x1, x2, x3⟩ := hx
    obtain ⟨_, _, _, y1, y2, y3⟩ := hy
    have hF := fun w h1 h2 hB => equalE_of B ks ks' hS a a' c c' w h1 h2 hB
    have HR : Hid (RowE B w a c ks ∧ RowE B w a' c' ks') := ⟨⟨x1, x2, x3⟩, ⟨y1, y2, y3⟩⟩
    obtain ⟨R, hR⟩ : ∃ R, Hid (R = samX (ET.mk op t b nm a c ks).ex (ET.mk op' t' b' nm' a' c' ks').ex) := ⟨_, (rfl : _ = samX _ _)⟩
    rw [← hR.out]
    have hR2 : Hid (R = (decide (op = op') && (decide (t = t' ∧ b = b') && (decide (nm.data.toList = nm'.data.toList) && samL (ks.map ET.ex) (ks'.map ET.ex))))) := by
      have := hR.out
      show R = _
      rw [this]
      show samX (.mk op t b nm.data.toList (ET.exs ks)) (.mk op' t' b' nm'.data.toList (ET.exs ks')) = _
      rw [samX, ET.exs_eq, ET.exs_eq]
    obtain ⟨Z, hZ⟩ : ∃ Z, Hid (Z = samL (ks.map ET.ex) (ks'.map ET.ex)) := ⟨_, (rfl : _ = samL _ _)⟩
    rw [← hZ.out] at hR2 hF
    obtain ⟨n, hn⟩ : ∃ n, Hid (n = ks.length) := ⟨_, (rfl : ks.length = _)⟩
    obtain ⟨n', hn'⟩ : ∃ n, Hid (n = ks'.length) := ⟨_, (rfl : ks'.length = _)⟩
    show Calls Tryd.prog 80 #[.agg (ex5 op t b nm (.slice a ks.length c)).toArray, .agg (ex5 op' t' b' nm' (.slice a' ks'.length c')).toArray] w _
    rw [← hn.out, ← hn'.out] at hF ⊢
    have hq := eq26g t b t' b'
    clear x1 x2 x3 y1 y2 y3 hR hS ih hN
    go_enter Tryd.func80, Tryd.ntmps80
    go_wp2_with (first
      | ((with_reducible show wpList _ _ _ _ _ _); refine wpList_box_at rfl 29 (.tmp 0) rfl (ex5 op t b nm (.slice a n c)) rfl ?_; intro w1 hA1 hb1 hs1; clear hs1)
      | ((with_reducible show wpList _ _ _ _ _ _); refine wpList_box_at rfl 29 (.tmp 1) rfl (ex5 op' t' b' nm' (.slice a' n' c')) rfl ?_; intro w2 hA2 hb2 hs2; clear hs2; refine Hid.out ?_))
    refine hidU ?_
    have hA12 := hA1.below hb2
    have hbw : Below w.heap.size w w2 := hb1.trans (hb2.mono hb1.size)
    have c0 : w2.cell? ⟨w.heap.size, 0, none⟩ = some (.int .u8 (op : Int)) := by rw [hA12.cell]; rfl
    have c1 : w2.cell? ⟨w.heap.size, 1, none⟩ = some (.int .u8 (t : Int)) := by rw [hA12.cell]; rfl
    have c2 : w2.cell? ⟨w.heap.size, 2, none⟩ = some (.int .u64 (b : Int)) := by rw [hA12.cell]; rfl
    have c3 : w2.cell? ⟨w.heap.size, 3, none⟩ = some (.string nm) := by rw [hA12.cell]; rfl
    have c4 : w2.cell? ⟨w.heap.size, 4, none⟩ = some (.slice a n c) := by rw [hA12.cell]; rfl
    have d0 : w2.cell? ⟨w1.heap.size, 0, none⟩ = some (.int .u8 (op' : Int)) := by rw [hA2.cell]; rfl
    have d1 : w2.cell? ⟨w1.heap.size, 1, none⟩ = some (.int .u8 (t' : Int)) := by rw [hA2.cell]; rfl
    have d2 : w2.cell? ⟨w1.heap.size, 2, none⟩ = some (.int .u64 (b' : Int)) := by rw [hA2.cell]; rfl
    have d3 : w2.cell? ⟨w1.heap.size, 3, none⟩ = some (.string nm') := by rw [hA2.cell]; rfl
    have d4 : w2.cell? ⟨w1.heap.size, 4, none⟩ = some (.slice a' n' c') := by rw [hA2.cell]; rfl
    have hold : Old B w w2 := Old.of_below hbw hBw
    have hF' := hF w2 (HR.out.1.old hold) (HR.out.2.old hold) (by have := hbw.size; omega)
    clear hA12 hA1 hA2 hb1 hb2 hold HR hF
    by_cases ho : op = op'
    · subst ho
      have hd : decide (op = op) = true := by simp
      rw [hd, Bool.true_and] at hR2
      cases hV : decide (t = t' ∧ b = b') with
      | true =>
        rw [hV, Bool.true_and] at hR2
        have hq' : ∀ u, (Op.equalIn 10000 26 (.agg #[.int .u8 (t : Int), .int .u64 (b : Int)]) (.agg #[.int .u8 (t' : Int), .int .u64 (b' : Int)])).run Tryd.prog u = .ok true u := fun u => by rw [hq, hV]
        clear hq hd hV
        go_wp2_with fail
        · have hs : nm.toList = nm'.toList := by assumption
          rw [toList_bytes, toList_bytes] at hs
          have hs' : decide (nm.data.toList = nm'.data.toList) = true := decide_eq_true hs
          rw [hs', Bool.true_and] at hR2
          rw [← hR2.out] at hF'
          clear hs hs'
          refine hF'.mono ?_
          rintro r w3 ⟨rfl, hb3⟩
          go_wp2
          go_ret
          exact ⟨rfl, hbw.trans (hb3.mono hbw.size)⟩
        · have hs : ¬ nm.toList = nm'.toList := by assumption
          rw [toList_bytes, toList_bytes] at hs
          have hs' : decide (nm.data.toList = nm'.data.toList) = false := decide_eq_false hs
          rw [hs', Bool.false_and] at hR2
          clear hs hs'
          go_ret
          exact ⟨by rw [hR2.out]; rfl, hbw⟩
      | false =>
        rw [hV, Bool.false_and] at hR2
        have hq' : ∀ u, (Op.equalIn 10000 26 (.agg #[.int .u8 (t : Int), .int .u64 (b : Int)]) (.agg #[.int .u8 (t' : Int), .int .u64 (b' : Int)])).run Tryd.prog u = .ok false u := fun u => by rw [hq, hV]
        clear hq hd hV
        go_wp2_with fail
        go_ret
        exact ⟨by rw [hR2.out]; rfl, hbw⟩
    · have e0 : ((op : Int) == (op' : Int)) = false := by rw [beq_eq_false_iff_ne]; omega
      have hd : decide (op = op') = false := by simpa using ho
      rw [hd, Bool.false_and] at hR2
      clear ho hd hq
      go_wp2_with fail
      go_ret
      exact ⟨by rw [hR2.out]; rfl, hbw⟩

end Go.Proofs.YtcmahiphfpgadaaDoor

/- Prepared for layer 5, no program is named: the text of a program tells it apart from any other. -/
namespace Go.Proofs.YtcmahiphfpgadaaDoor
set_option linter.unusedVariables false

/-- A statement, as data. -/
inductive St where
  | mk (kind : Int) (nm : List UInt8) (e : Ex) (body els : List St)

/-- No expression. -/
def noE : Ex := .mk 0 0 0 [] []

/-- So many blocks deep. -/
def mg (d : Nat) : List UInt8 := List.replicate (2 * d + 2) 32

section
variable (prX : Ex → Option (List UInt8)) (isName : List UInt8 → Bool) (isNo : Ex → Bool)

mutual
/-- A statement's lines. -/
def prS (d : Nat) : St → Option (List UInt8)
  | .mk k nm e body els =>
    if k = 1 then
      (if isName nm = true ∧ body.isEmpty = true ∧ els.isEmpty = true then
        (match prX e with | some x => some (mg d ++ (nm ++ 32 :: (61 :: 32 :: (x ++ 59 :: [10])))) | none => none) else none)
    else if k = 2 then (if isName nm = true ∧ isNo e = true ∧ body.isEmpty = true ∧ els.isEmpty = true then some (mg d ++ ([108, 111, 99, 107] ++ 32 :: (nm ++ 59 :: [10]))) else none)
    else if k = 3 then (if isName nm = true ∧ isNo e = true ∧ body.isEmpty = true ∧ els.isEmpty = true then some (mg d ++ ([117, 110, 108, 111, 99, 107] ++ 32 :: (nm ++ 59 :: [10]))) else none)
    else if k = 4 then (if nm = [] ∧ body.isEmpty = true ∧ els.isEmpty = true then
        (match prX e with | some x => some (mg d ++ ([97, 115, 115, 101, 114, 116] ++ 32 :: (x ++ 59 :: [10]))) | none => none) else none)
    else if k = 5 then (if nm = [] then
        (match prX e, prL (d + 1) body, prL (d + 1) els with
         | some x, some y, some z => some (mg d ++ ([105, 102] ++ 32 :: (x ++ 32 :: (123 :: 10 :: (y ++ (mg d ++ 125 :: (if els.isEmpty = true then [10] else 32 :: ([101, 108, 115, 101, 32, 123] ++ 10 :: (z ++ (mg d ++ 125 :: [10])))))))))) 
         | _, _, _ => none) else none)
    else if k = 6 then (if nm = [] ∧ els.isEmpty = true then
        (match prX e, prL (d + 1) body with
         | some x, some y => some (mg d ++ ([119, 104, 105, 108, 101] ++ 32 :: (x ++ 32 :: (123 :: 10 :: (y ++ (mg d ++ 125 :: [10]))))))
         | _, _ => none) else none)
    else if k = 7 then (if nm = [] ∧ isNo e = true ∧ body.isEmpty = true ∧ els.isEmpty = true then some (mg d ++ ([115, 107, 105, 112] ++ 59 :: [10])) else none)
    else none
/-- Statements' lines. -/
def prL (d : Nat) : List St → Option (List UInt8)
  | [] => some []
  | s :: r => if 32 < d then none else
    (match prS d s, prL d r with
     | some x, some y => some (x ++ y)
     | _, _ => none)
end

/-- How a statement that has lines looks. -/
inductive ShapeS (d : Nat) : St → List UInt8 → Prop
  | assign (nm : List UInt8) (e : Ex) (x : List UInt8) (hn : isName nm = true) (hx : prX e = some x) : ShapeS d (.mk 1 nm e [] []) (mg d ++ (nm ++ 32 :: (61 :: 32 :: (x ++ 59 :: [10]))))
  | lk (k : Int) (w nm : List UInt8) (e : Ex) (hk : (k = 2 ∧ w = [108, 111, 99, 107]) ∨ (k = 3 ∧ w = [117, 110, 108, 111, 99, 107])) (hn : isName nm = true) (he : isNo e = true) : ShapeS d (.mk k nm e [] []) (mg d ++ (w ++ 32 :: (nm ++ 59 :: [10])))
  | asrt (e : Ex) (x : List UInt8) (hx : prX e = some x) : ShapeS d (.mk 4 [] e [] []) (mg d ++ ([97, 115, 115, 101, 114, 116] ++ 32 :: (x ++ 59 :: [10])))
  | iff (e : Ex) (body els : List St) (x y z : List UInt8) (hx : prX e = some x) (hy : prL prX isName isNo (d + 1) body = some y) (hz : prL prX isName isNo (d + 1) els = some z) :
      ShapeS d (.mk 5 [] e body els) (mg d ++ ([105, 102] ++ 32 :: (x ++ 32 :: (123 :: 10 :: (y ++ (mg d ++ 125 :: (if els.isEmpty = true then [10] else 32 :: ([101, 108, 115, 101, 32, 123] ++ 10 :: (z ++ (mg d ++ 125 :: [10]))))))))))
  | whl (e : Ex) (body : List St) (x y : List UInt8) (hx : prX e = some x) (hy : prL prX isName isNo (d + 1) body = some y) : ShapeS d (.mk 6 [] e body []) (mg d ++ ([119, 104, 105, 108, 101] ++ 32 :: (x ++ 32 :: (123 :: 10 :: (y ++ (mg d ++ 125 :: [10]))))))
  | skp (e : Ex) (he : isNo e = true) : ShapeS d (.mk 7 [] e [] []) (mg d ++ ([115, 107, 105, 112] ++ 59 :: [10]))

theorem shapeS_of (d : Nat) (s : St) (x : List UInt8) (h : prS prX isName isNo d s = some x) : ShapeS prX isName isNo d s x := by
  match s, h with
  | .mk k nm e body els, h =>
    simp only [prS] at h
    split at h
    · next hk =>
      subst hk
      split at h
      · next hc =>
        obtain ⟨h1, h2, h3⟩ := hc
        rw [List.isEmpty_iff] at h2 h3
        subst h2 h3
        split at h
        · next y hy => injection h with h; subst h; exact .assign nm e y h1 hy
        · cases h
      · cases h
    · split at h
      · next hk =>
        subst hk
        split at h
        · next hc =>
          obtain ⟨h1, h2, h3, h4⟩ := hc
          rw [List.isEmpty_iff] at h3 h4
          subst h3 h4
          injection h with h; subst h
          exact .lk 2 _ nm e (.inl ⟨rfl, rfl⟩) h1 h2
        · cases h
      · split at h
        · next hk =>
          subst hk
          split at h
          · next hc =>
            obtain ⟨h1, h2, h3, h4⟩ := hc
            rw [List.isEmpty_iff] at h3 h4
            subst h3 h4
            injection h with h; subst h
            exact .lk 3 _ nm e (.inr ⟨rfl, rfl⟩) h1 h2
          · cases h
        · split at h
          · next hk =>
            subst hk
            split at h
            · next hc =>
              obtain ⟨h1, h2, h3⟩ := hc
              rw [List.isEmpty_iff] at h2 h3
              subst h1 h2 h3
              split at h
              · next y hy => injection h with h; subst h; exact .asrt e y hy
              · cases h
            · cases h
          · split at h
            · next hk =>
              subst hk
              split at h
              · next hc =>
                subst hc
                split at h
                · next a b c ha hb hc => injection h with h; subst h; exact .iff e body els a b c ha hb hc
                · cases h
              · cases h
            · split at h
              · next hk =>
                subst hk
                split at h
                · next hc =>
                  obtain ⟨h1, h2⟩ := hc
                  rw [List.isEmpty_iff] at h2
                  subst h1 h2
                  split at h
                  · next a b ha hb => injection h with h; subst h; exact .whl e body a b ha hb
                  · cases h
                · cases h
              · split at h
                · next hk =>
                  subst hk
                  split at h
                  · next hc =>
                    obtain ⟨h1, h2, h3, h4⟩ := hc
                    rw [List.isEmpty_iff] at h3 h4
                    subst h1 h3 h4
                    injection h with h; subst h
                    exact .skp e h2
                  · cases h
                · cases h

/-- What is asked of expressions and names. -/
structure FitsS : Prop where
  xApart : ∀ e e' x y r r', prX e = some x → prX e' = some y → Delim r → Delim r' → x ++ r = y ++ r' → e = e' ∧ x = y ∧ r = r'
  noOne : ∀ e e', isNo e = true → isNo e' = true → e = e'
  nameTok : ∀ x, isName x = true → x ≠ [] ∧ ∀ c ∈ x, tokch c = true
  kLock : isName [108, 111, 99, 107] = false
  kUnlock : isName [117, 110, 108, 111, 99, 107] = false
  kAssert : isName [97, 115, 115, 101, 114, 116] = false
  kIf : isName [105, 102] = false
  kWhile : isName [119, 104, 105, 108, 101] = false
  kSkip : isName [115, 107, 105, 112] = false

/-- What comes behind a block's statements. -/
def Term (d : Nat) (r : List UInt8) : Prop := ∃ q, r = List.replicate (2 * d) 32 ++ 125 :: q

theorem mg_term (d : Nat) (q : List UInt8) : Term (d + 1) (mg d ++ 125 :: q) := ⟨q, by rw [mg, show 2 * (d + 1) = 2 * d + 2 by omega]⟩

variable {prX isName isNo}

/-- The word with which a statement's line begins. -/
theorem shapeS_word (F : FitsS prX isName isNo) {d : Nat} {s : St} {x : List UInt8} (h : ShapeS prX isName isNo d s x) : ∃ w c q, x = mg d ++ (w ++ c :: q) := by
  cases h with
  | assign nm e x hn hx => exact ⟨nm, 32, _, rfl⟩
  | lk k w nm e hk hn he => exact ⟨w, 32, _, rfl⟩
  | asrt e x hx => exact ⟨[97, 115, 115, 101, 114, 116], 32, _, rfl⟩
  | iff e body els x y z hx hy hz => exact ⟨[105, 102], 32, _, rfl⟩
  | whl e body x y hx hy => exact ⟨[119, 104, 105, 108, 101], 32, _, rfl⟩
  | skp e he => exact ⟨[115, 107, 105, 112], 59, _, rfl⟩

theorem lk_tok {k : Int} {w : List UInt8} (hk : (k = 2 ∧ w = [108, 111, 99, 107]) ∨ (k = 3 ∧ w = [117, 110, 108, 111, 99, 107])) : ∀ u ∈ w, tokch u = true := by
  rcases hk with ⟨_, rfl⟩ | ⟨_, rfl⟩ <;> decide

end
end Go.Proofs.YtcmahiphfpgadaaDoor
