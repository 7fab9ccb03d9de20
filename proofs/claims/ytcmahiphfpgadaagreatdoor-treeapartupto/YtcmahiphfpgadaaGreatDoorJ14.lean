/- Joined texts of the proof. -/
import Derived.Test.YtcmahiphfpgadaaGreatDoorJ13
import Derived.Test.YtcmahiphfpgadaaGreatDoorJ10

/- Programs are told apart. -/
namespace Go.Proofs.YtcmahiphfpgadaaGreatDoor
open Go.RowKit
set_option linter.unusedVariables false

mutual
def samS : St → St → Bool
  | .mk k nm e b c, .mk k' nm' e' b' c' => decide (k = k') && (decide (nm = nm') && (samX e e' && (samSL b b' && samSL c c')))
def samSL : List St → List St → Bool
  | [], [] => true
  | x :: r, y :: s => samS x y && samSL r s
  | _, _ => false
end

theorem samSL_iff : ∀ (xs ys : List St), samSL xs ys = true ↔ xs.length = ys.length ∧ ∀ (i : Nat) (x y : St), xs[i]? = some x → ys[i]? = some y → samS x y = true
  | [], [] => by simp [samSL]
  | [], y :: s => by simp [samSL]
  | x :: r, [] => by simp [samSL]
  | x :: r, y :: s => by
    rw [samSL, Bool.and_eq_true, samSL_iff r s]
    constructor
    · rintro ⟨h1, h2, h3⟩
      refine ⟨by simp [h2], fun i a b ha hb => ?_⟩
      cases i with
      | zero => simp at ha hb; subst ha hb; exact h1
      | succ i => exact h3 i a b (by simpa using ha) (by simpa using hb)
    · rintro ⟨h1, h2⟩
      exact ⟨h2 0 x y rfl rfl, by simpa using h1, fun i a b ha hb => h2 (i + 1) a b (by simpa using ha) (by simpa using hb)⟩

def eqL {α : Type} (f : α → α → Bool) : List α → List α → Bool
  | [], [] => true
  | x :: r, y :: s => f x y && eqL f r s
  | _, _ => false

theorem eqL_iff {α : Type} (f : α → α → Bool) : ∀ (xs ys : List α), eqL f xs ys = true ↔ xs.length = ys.length ∧ ∀ (i : Nat) (x y : α), xs[i]? = some x → ys[i]? = some y → f x y = true
  | [], [] => by simp [eqL]
  | [], y :: s => by simp [eqL]
  | x :: r, [] => by simp [eqL]
  | x :: r, y :: s => by
    rw [eqL, Bool.and_eq_true, eqL_iff f r s]
    constructor
    · rintro ⟨h1, h2, h3⟩
      refine ⟨by simp [h2], fun i a b ha hb => ?_⟩
      cases i with
      | zero => simp at ha hb; subst ha hb; exact h1
      | succ i => exact h3 i a b (by simpa using ha) (by simpa using hb)
    · rintro ⟨h1, h2⟩
      exact ⟨h2 0 x y rfl rfl, by simpa using h1, fun i a b ha hb => h2 (i + 1) a b (by simpa using ha) (by simpa using hb)⟩

def samV (v u : Vr) : Bool := decide (v.nm = u.nm ∧ v.t = u.t ∧ v.b = u.b)
def samT (t u : Th) : Bool := decide (t.nm = u.nm) && (eqL samV t.locals u.locals && samSL t.body u.body)

/-- What telling two statements, two threads apart does. -/
def SameSW (B : Nat) (x : ST) : Prop := ∀ (y : ST) (w : World), x.In B w → y.In B w → B ≤ w.heap.size → Calls Tryz.prog 90 #[.agg x.cells.toArray, .agg y.cells.toArray] w fun r w' => r = .returned (.bool (samS x.st y.st)) ∧ Below w.heap.size w w'
def SameTW (B : Nat) (x : TT) : Prop := ∀ (y : TT) (w : World), x.In B w → y.In B w → B ≤ w.heap.size → Calls Tryz.prog 53 #[.agg x.cells.toArray, .agg y.cells.toArray] w fun r w' => r = .returned (.bool (samT x.th y.th)) ∧ Below w.heap.size w w'

set_option maxRecDepth 100000 in
set_option maxHeartbeats 3200000 in
theorem equalS_of (B : Nat) (xs ys : List ST) (hS : ∀ x ∈ xs, SameSW B x) (a1 a2 : Option Addr) (c1 c2 : Nat) (w : World) (h1 : RowS B w a1 c1 xs) (h2 : RowS B w a2 c2 ys) (hBw : B ≤ w.heap.size) :
    Calls Tryz.prog 89 #[.slice a1 xs.length c1, .slice a2 ys.length c2, .func (.func 90) #[] #[]] w fun r w' => r = .returned (.bool (samSL (xs.map ST.st) (ys.map ST.st))) ∧ Below w.heap.size w w' := by
  obtain ⟨R, hR⟩ : ∃ R, Hid (R = samSL (xs.map ST.st) (ys.map ST.st)) := ⟨_, (rfl : _ = samSL _ _)⟩
  rw [← hR.out]
  obtain ⟨n, hn⟩ : ∃ n, Hid (n = xs.length) := ⟨_, (rfl : xs.length = _)⟩
  obtain ⟨n2, hn2⟩ : ∃ n, Hid (n = ys.length) := ⟨_, (rfl : ys.length = _)⟩
  have hl1 := h1.1
  have hl2 := h2.1
  have hk1 := h1.2.1
  have hk2 := h2.2.1
  rw [← hn.out] at hl1 hk1 ⊢
  rw [← hn2.out] at hl2 hk2 ⊢
  have HS : Hid (∀ x ∈ xs, SameSW B x) := hS
  have HR : Hid (RowS B w a1 c1 xs ∧ RowS B w a2 c2 ys) := ⟨h1, h2⟩
  clear hS h1 h2
  by_cases hnn : n = n2
  · subst hnn
    go_enter Tryz.func89, Tryz.ntmps89
    go_wp2_with fail
    go_loopw [17] (fun j wr => ∃ i : Nat, j = .int .i64 (i : Int) ∧ i ≤ n ∧ Hid (Below w.heap.size w wr ∧ ∀ (q : Nat) (x y : St), q < i → (xs.map ST.st)[q]? = some x → (ys.map ST.st)[q]? = some y → samS x y = true)) (fun j _ => n - (intOf j).toNat)
    case atStart => exact ⟨0, rfl, by omega, Below.refl _ _, fun q x y hq => by omega⟩
    case round =>
      obtain ⟨i, rfl, hi, hX⟩ := hrel
      by_cases hc : i < n
      · obtain ⟨x, hx⟩ : ∃ k, xs[i]? = some k := ⟨xs[i]'(by rw [← hn.out]; exact hc), by rw [List.getElem?_eq_getElem]⟩
        obtain ⟨y, hy⟩ : ∃ k, ys[i]? = some k := ⟨ys[i]'(by rw [← hn2.out]; exact hc), by rw [List.getElem?_eq_getElem]⟩
        obtain ⟨hbw, hall⟩ := hX.out
        have hold : Old B w wr := Old.of_below hbw hBw
        obtain ⟨g1, o1, rfl, hg1, hr1, hx1⟩ := (HR.out.1.old hold).at i x hx
        obtain ⟨g2, o2, rfl, hg2, hr2, hy1⟩ := (HR.out.2.old hold).at i y hy
        have HK : Hid (x.In B wr ∧ y.In B wr ∧ B ≤ wr.heap.size ∧ wr.rangeAt g2 (o2 + i * 9) y.cells) := ⟨hx1, hy1, by have := hbw.size; omega, hr2⟩
        clear hX hx1 hy1 hr2 hold HR
        go_wp2_with (first
          | ((with_reducible show wpList _ _ _ _ _ _); refine wpList_load_mid (P := Tryz.prog) rfl 87 (.tmp 20) rfl g1 (o1 + i * 9) (by first | rfl | (simp; done)) x.cells _ hr1 Tryz.underlying87 rfl (by rw [ST.cells_len]; exact i38) ?_)
          | ((with_reducible show wpList _ _ _ _ _ _); refine wpList_alloc_at rfl 87 rfl _ 9 z38 ?_; intro w2 hA2 hb2 hs2)
          | ((with_reducible show wpList _ _ _ _ _ _); refine wpList_store_at (P := Tryz.prog) rfl 87 (.tmp 8) (.tmp 21) rfl wr.heap.size x.cells rfl rfl 87 _ hA2 (by rw [ST.cells_len]; exact i38) (by rw [ST.cells_len]; rfl) x.one ?_; intro w3 hA3 hb3 hs3; refine Hid.out ?_))
        refine hidU ?_
        have hB3 : Below wr.heap.size wr w3 := hb3.below hb2 (Nat.le_refl _) (by omega)
        obtain ⟨q1, q2, q3, q4⟩ := HK.out
        have hold3 : Old B wr w3 := Old.of_below hB3 q3
        have hr3 : w3.rangeAt g2 (o2 + i * 9) y.cells := Old.range hold3 hg2 q4
        have hw3 : Below w.heap.size w w3 := hbw.trans (hB3.mono hbw.size)
        have hA3' := hA3
        clear hb3 hb2 hA2 hr1 hs2 hs3 q4 hA3
        go_wp2_with (first
          | ((with_reducible show wpList _ _ _ _ _ _); refine wpList_load_mid (P := Tryz.prog) rfl 87 (.tmp 24) rfl g2 (o2 + i * 9) (by first | rfl | (simp; done)) y.cells _ hr3 Tryz.underlying87 rfl (by rw [ST.cells_len]; exact i38) ?_)
          | ((with_reducible show wpList _ _ _ _ _ _); refine wpList_alloc_at rfl 87 rfl _ 9 z38 ?_; intro w4 hA4 hb4 hs4)
          | ((with_reducible show wpList _ _ _ _ _ _); refine wpList_store_at (P := Tryz.prog) rfl 87 (.tmp 9) (.tmp 25) rfl w3.heap.size y.cells rfl rfl 87 _ hA4 (by rw [ST.cells_len]; exact i38) (by rw [ST.cells_len]; rfl) y.one ?_; intro w5 hA5 hb5 hs5; refine Hid.out ?_))
        refine hidU ?_
        have hB5 : Below w3.heap.size w3 w5 := hb5.below hb4 (Nat.le_refl _) (by omega)
        have hA35 := hA3'.below hB5
        have hw5 : Below w.heap.size w w5 := hw3.trans (hB5.mono hw3.size)
        have hold5 : Old B wr w5 := hold3.trans (Old.of_below hB5 (by have := hB3.size; omega))
        have hI := HS.out x (List.mem_of_getElem? hx) y w5 (q1.old hold5) (q2.old hold5) (by have := hw5.size; omega)
        clear hb5 hb4 hA4 hr3 hs4 hs5 hA3' q1 q2 hold3 hold5 HK HS
        go_wp2_with (first
          | ((with_reducible show wpList _ _ _ _ _ _); refine wpList_load_at (P := Tryz.prog) rfl 87 (.tmp 8) rfl wr.heap.size rfl 87 x.cells hA35 _ Tryz.underlying87 rfl (by rw [ST.cells_len]; exact i38) ?_)
          | ((with_reducible show wpList _ _ _ _ _ _); refine wpList_load_at (P := Tryz.prog) rfl 87 (.tmp 9) rfl w3.heap.size rfl 87 y.cells hA5 _ Tryz.underlying87 rfl (by rw [ST.cells_len]; exact i38) ?_))
        refine hI.mono ?_
        rintro r w6 ⟨rfl, hb6⟩
        have hw6 : Below w.heap.size w w6 := hw5.trans (hb6.mono hw5.size)
        clear hI hb6 hw5 hw3 hB3 hB5 hA35 hA5
        cases hM : samS x.st y.st with
        | false =>
          have hRf : R = false := by
            rw [hR.out, Bool.eq_false_iff]
            intro h
            have := ((samSL_iff _ _).1 h).2 i x.st y.st (by rw [List.getElem?_map, hx]; rfl) (by rw [List.getElem?_map, hy]; rfl)
            rw [hM] at this
            cases this
          clear hM
          go_wp2
          go_ret
          exact ⟨by rw [hRf]; rfl, hw6⟩
        | true =>
          go_wp2
          go_roundw
          case rel =>
            refine ⟨i + 1, by go_num, by omega, hw6, fun q u v hq hu hv => ?_⟩
            by_cases hqi : q = i
            · subst hqi
              rw [List.getElem?_map, hx] at hu
              rw [List.getElem?_map, hy] at hv
              simp at hu hv
              subst hu hv
              exact hM
            · exact hall q u v (by omega) hu hv
          case measure => simp [intOf]; omega
      · have hin : i = n := by omega
        obtain ⟨hbw, hall⟩ := hX.out
        have hRt : R = true := by
          rw [hR.out, samSL_iff, List.length_map, List.length_map, ← hn.out, ← hn2.out]
          refine ⟨rfl, fun q u v hu hv => hall q u v ?_ hu hv⟩
          have := (List.getElem?_eq_some_iff.1 hu).1
          rw [List.length_map, ← hn.out] at this
          omega
        clear hX hall hin HR HS
        go_wp2
        go_ret
        exact ⟨by rw [hRt]; rfl, hbw⟩
  · have hne : ((n : Int) == (n2 : Int)) = false := by rw [beq_eq_false_iff_ne]; omega
    have hRf : R = false := by
      rw [hR.out, Bool.eq_false_iff]
      intro h
      have := (samSL_iff _ _).1 h
      rw [List.length_map, List.length_map, ← hn.out, ← hn2.out] at this
      exact hnn this.1
    clear hnn
    go_enter Tryz.func89, Tryz.ntmps89
    go_wp2_with fail
    go_ret
    exact ⟨by rw [hRf]; rfl, Below.refl _ _⟩


set_option maxRecDepth 100000 in
set_option maxHeartbeats 3200000 in
theorem equalT_of (B : Nat) (xs ys : List TT) (hS : ∀ x ∈ xs, SameTW B x) (a1 a2 : Option Addr) (c1 c2 : Nat) (w : World) (h1 : RowT B w a1 c1 xs) (h2 : RowT B w a2 c2 ys) (hBw : B ≤ w.heap.size) :
    Calls Tryz.prog 52 #[.slice a1 xs.length c1, .slice a2 ys.length c2, .func (.func 53) #[] #[]] w fun r w' => r = .returned (.bool ((eqL samT) (xs.map TT.th) (ys.map TT.th))) ∧ Below w.heap.size w w' := by
  obtain ⟨R, hR⟩ : ∃ R, Hid (R = (eqL samT) (xs.map TT.th) (ys.map TT.th)) := ⟨_, (rfl : _ = (eqL samT) _ _)⟩
  rw [← hR.out]
  obtain ⟨n, hn⟩ : ∃ n, Hid (n = xs.length) := ⟨_, (rfl : xs.length = _)⟩
  obtain ⟨n2, hn2⟩ : ∃ n, Hid (n = ys.length) := ⟨_, (rfl : ys.length = _)⟩
  have hl1 := h1.1
  have hl2 := h2.1
  have hk1 := h1.2.1
  have hk2 := h2.2.1
  rw [← hn.out] at hl1 hk1 ⊢
  rw [← hn2.out] at hl2 hk2 ⊢
  have HS : Hid (∀ x ∈ xs, SameTW B x) := hS
  have HR : Hid (RowT B w a1 c1 xs ∧ RowT B w a2 c2 ys) := ⟨h1, h2⟩
  clear hS h1 h2
  by_cases hnn : n = n2
  · subst hnn
    go_enter Tryz.func52, Tryz.ntmps52
    go_wp2_with fail
    go_loopw [17] (fun j wr => ∃ i : Nat, j = .int .i64 (i : Int) ∧ i ≤ n ∧ Hid (Below w.heap.size w wr ∧ ∀ (q : Nat) (x y : Th), q < i → (xs.map TT.th)[q]? = some x → (ys.map TT.th)[q]? = some y → samT x y = true)) (fun j _ => n - (intOf j).toNat)
    case atStart => exact ⟨0, rfl, by omega, Below.refl _ _, fun q x y hq => by omega⟩
    case round =>
      obtain ⟨i, rfl, hi, hX⟩ := hrel
      by_cases hc : i < n
      · obtain ⟨x, hx⟩ : ∃ k, xs[i]? = some k := ⟨xs[i]'(by rw [← hn.out]; exact hc), by rw [List.getElem?_eq_getElem]⟩
        obtain ⟨y, hy⟩ : ∃ k, ys[i]? = some k := ⟨ys[i]'(by rw [← hn2.out]; exact hc), by rw [List.getElem?_eq_getElem]⟩
        obtain ⟨hbw, hall⟩ := hX.out
        have hold : Old B w wr := Old.of_below hbw hBw
        obtain ⟨g1, o1, rfl, hg1, hr1, hx1⟩ := (HR.out.1.old hold).at i x hx
        obtain ⟨g2, o2, rfl, hg2, hr2, hy1⟩ := (HR.out.2.old hold).at i y hy
        have HK : Hid (x.In B wr ∧ y.In B wr ∧ B ≤ wr.heap.size ∧ wr.rangeAt g2 (o2 + i * 3) y.cells) := ⟨hx1, hy1, by have := hbw.size; omega, hr2⟩
        clear hX hx1 hy1 hr2 hold HR
        go_wp2_with (first
          | ((with_reducible show wpList _ _ _ _ _ _); refine wpList_load_mid (P := Tryz.prog) rfl 59 (.tmp 20) rfl g1 (o1 + i * 3) (by first | rfl | (simp; done)) x.cells _ hr1 Tryz.underlying59 rfl i42 ?_)
          | ((with_reducible show wpList _ _ _ _ _ _); refine wpList_alloc_at rfl 59 rfl _ 3 z42 ?_; intro w2 hA2 hb2 hs2)
          | ((with_reducible show wpList _ _ _ _ _ _); refine wpList_store_at (P := Tryz.prog) rfl 59 (.tmp 8) (.tmp 21) rfl wr.heap.size x.cells rfl rfl 59 _ hA2 i42 rfl x.one ?_; intro w3 hA3 hb3 hs3; refine Hid.out ?_))
        refine hidU ?_
        have hB3 : Below wr.heap.size wr w3 := hb3.below hb2 (Nat.le_refl _) (by omega)
        obtain ⟨q1, q2, q3, q4⟩ := HK.out
        have hold3 : Old B wr w3 := Old.of_below hB3 q3
        have hr3 : w3.rangeAt g2 (o2 + i * 3) y.cells := Old.range hold3 hg2 q4
        have hw3 : Below w.heap.size w w3 := hbw.trans (hB3.mono hbw.size)
        have hA3' := hA3
        clear hb3 hb2 hA2 hr1 hs2 hs3 q4 hA3
        go_wp2_with (first
          | ((with_reducible show wpList _ _ _ _ _ _); refine wpList_load_mid (P := Tryz.prog) rfl 59 (.tmp 24) rfl g2 (o2 + i * 3) (by first | rfl | (simp; done)) y.cells _ hr3 Tryz.underlying59 rfl i42 ?_)
          | ((with_reducible show wpList _ _ _ _ _ _); refine wpList_alloc_at rfl 59 rfl _ 3 z42 ?_; intro w4 hA4 hb4 hs4)
          | ((with_reducible show wpList _ _ _ _ _ _); refine wpList_store_at (P := Tryz.prog) rfl 59 (.tmp 9) (.tmp 25) rfl w3.heap.size y.cells rfl rfl 59 _ hA4 i42 rfl y.one ?_; intro w5 hA5 hb5 hs5; refine Hid.out ?_))
        refine hidU ?_
        have hB5 : Below w3.heap.size w3 w5 := hb5.below hb4 (Nat.le_refl _) (by omega)
        have hA35 := hA3'.below hB5
        have hw5 : Below w.heap.size w w5 := hw3.trans (hB5.mono hw3.size)
        have hold5 : Old B wr w5 := hold3.trans (Old.of_below hB5 (by have := hB3.size; omega))
        have hI := HS.out x (List.mem_of_getElem? hx) y w5 (q1.old hold5) (q2.old hold5) (by have := hw5.size; omega)
        clear hb5 hb4 hA4 hr3 hs4 hs5 hA3' q1 q2 hold3 hold5 HK HS
        go_wp2_with (first
          | ((with_reducible show wpList _ _ _ _ _ _); refine wpList_load_at (P := Tryz.prog) rfl 59 (.tmp 8) rfl wr.heap.size rfl 59 x.cells hA35 _ Tryz.underlying59 rfl i42 ?_)
          | ((with_reducible show wpList _ _ _ _ _ _); refine wpList_load_at (P := Tryz.prog) rfl 59 (.tmp 9) rfl w3.heap.size rfl 59 y.cells hA5 _ Tryz.underlying59 rfl i42 ?_))
        refine hI.mono ?_
        rintro r w6 ⟨rfl, hb6⟩
        have hw6 : Below w.heap.size w w6 := hw5.trans (hb6.mono hw5.size)
        clear hI hb6 hw5 hw3 hB3 hB5 hA35 hA5
        cases hM : samT x.th y.th with
        | false =>
          have hRf : R = false := by
            rw [hR.out, Bool.eq_false_iff]
            intro h
            have := ((eqL_iff samT _ _).1 h).2 i x.th y.th (by rw [List.getElem?_map, hx]; rfl) (by rw [List.getElem?_map, hy]; rfl)
            rw [hM] at this
            cases this
          clear hM
          go_wp2
          go_ret
          exact ⟨by rw [hRf]; rfl, hw6⟩
        | true =>
          go_wp2
          go_roundw
          case rel =>
            refine ⟨i + 1, by go_num, by omega, hw6, fun q u v hq hu hv => ?_⟩
            by_cases hqi : q = i
            · subst hqi
              rw [List.getElem?_map, hx] at hu
              rw [List.getElem?_map, hy] at hv
              simp at hu hv
              subst hu hv
              exact hM
            · exact hall q u v (by omega) hu hv
          case measure => simp [intOf]; omega
      · have hin : i = n := by omega
        obtain ⟨hbw, hall⟩ := hX.out
        have hRt : R = true := by
          rw [hR.out, eqL_iff samT, List.length_map, List.length_map, ← hn.out, ← hn2.out]
          refine ⟨rfl, fun q u v hu hv => hall q u v ?_ hu hv⟩
          have := (List.getElem?_eq_some_iff.1 hu).1
          rw [List.length_map, ← hn.out] at this
          omega
        clear hX hall hin HR HS
        go_wp2
        go_ret
        exact ⟨by rw [hRt]; rfl, hbw⟩
  · have hne : ((n : Int) == (n2 : Int)) = false := by rw [beq_eq_false_iff_ne]; omega
    have hRf : R = false := by
      rw [hR.out, Bool.eq_false_iff]
      intro h
      have := (eqL_iff samT _ _).1 h
      rw [List.length_map, List.length_map, ← hn.out, ← hn2.out] at this
      exact hnn this.1
    clear hnn
    go_enter Tryz.func52, Tryz.ntmps52
    go_wp2_with fail
    go_ret
    exact ⟨by rw [hRf]; rfl, Below.refl _ _⟩


end Go.Proofs.YtcmahiphfpgadaaGreatDoor

/- Statements, threads and programs are told apart. -/
namespace Go.Proofs.YtcmahiphfpgadaaGreatDoor
open Go.RowKit
set_option linter.unusedVariables false

set_option maxRecDepth 100000 in
set_option maxHeartbeats 3200000 in
theorem sameStmt_at (k k' : Int) (nm nm' : ByteArray) (op t b : Nat) (enm : ByteArray) (ea : Option Addr) (n c : Nat) (s1 s2 : Value) (op' t' b' : Nat) (enm' : ByteArray) (ea' : Option Addr) (n' c' : Nat) (s1' s2' : Value) (p3 p4 p5 : Bool) (w : World)
    (h3 : AskB w 117 #[.agg (ex5 op t b enm (.slice ea n c)).toArray, .agg (ex5 op' t' b' enm' (.slice ea' n' c')).toArray] p3) (h4 : AskB w 89 #[s1, s1', .func (.func 90) #[] #[]] p4) (h5 : AskB w 89 #[s2, s2', .func (.func 90) #[] #[]] p5) :
    Calls Tryz.prog 90 #[.agg (st9 k nm (ex5 op t b enm (.slice ea n c)) s1 s2).toArray, .agg (st9 k' nm' (ex5 op' t' b' enm' (.slice ea' n' c')) s1' s2').toArray] w fun r w' => r = .returned (.bool (decide (k = k') && (decide (nm.data.toList = nm'.data.toList) && (p3 && (p4 && p5))))) ∧ Below w.heap.size w w' := by
  obtain ⟨R, hR⟩ : ∃ R, Hid (R = (decide (k = k') && (decide (nm.data.toList = nm'.data.toList) && (p3 && (p4 && p5))))) := ⟨_, (rfl : _ = (decide (k = k') && (decide (nm.data.toList = nm'.data.toList) && (p3 && (p4 && p5)))))⟩
  rw [← hR.out]
  have H3 : Hid (AskB w 117 #[.agg (ex5 op t b enm (.slice ea n c)).toArray, .agg (ex5 op' t' b' enm' (.slice ea' n' c')).toArray] p3) := h3
  have H4 : Hid (AskB w 89 #[s1, s1', .func (.func 90) #[] #[]] p4) := h4
  have H5 : Hid (AskB w 89 #[s2, s2', .func (.func 90) #[] #[]] p5) := h5
  clear h3 h4 h5
  go_enter Tryz.func90, Tryz.ntmps90
  go_wp2_with (first
    | ((with_reducible show wpList _ _ _ _ _ _); refine wpList_box_at rfl 87 (.tmp 0) rfl (st9 k nm (ex5 op t b enm (.slice ea n c)) s1 s2) rfl ?_; intro w1 hA1 hb1 hs1; clear hs1)
    | ((with_reducible show wpList _ _ _ _ _ _); refine wpList_box_at rfl 87 (.tmp 1) rfl (st9 k' nm' (ex5 op' t' b' enm' (.slice ea' n' c')) s1' s2') rfl ?_; intro w2 hA2 hb2 hs2; clear hs2; refine Hid.out ?_))
  refine hidU ?_
  have hA12 := hA1.below hb2
  have hbw : Below w.heap.size w w2 := hb1.trans (hb2.mono hb1.size)
  clear hA1 hb1 hb2
  obtain ⟨q0, q1, q2, q3, q4, q5, q6, q7, q8⟩ := st_cells hA12
  obtain ⟨u0, u1, u2, u3, u4, u5, u6, u7, u8⟩ := st_cells hA2
  by_cases hk : k = k'
  · subst hk
    have hd : decide (k = k) = true := by simp
    rw [hd, Bool.true_and] at hR
    clear hd
    go_wp2_with fail
    · have hs : nm.toList = nm'.toList := by assumption
      rw [toList_bytes, toList_bytes] at hs
      have hs' : decide (nm.data.toList = nm'.data.toList) = true := decide_eq_true hs
      rw [hs', Bool.true_and] at hR
      clear hs hs'
      refine (H3.out _ hbw).mono ?_
      rintro r w3 ⟨rfl, hb3⟩
      have hA3 := hA12.below hb3
      have hA3' := hA2.below hb3
      have hw3 := hbw.trans (hb3.mono hbw.size)
      clear hA12 hA2 hbw hb3 q0 q1 q2 q3 q4 q5 q6 q7 q8 u0 u1 u2 u3 u4 u5 u6 u7 u8
      obtain ⟨q0, q1, q2, q3, q4, q5, q6, q7, q8⟩ := st_cells hA3
      obtain ⟨u0, u1, u2, u3, u4, u5, u6, u7, u8⟩ := st_cells hA3'
      cases p3 with
      | false =>
        go_wp2_with fail
        go_ret
        exact ⟨by rw [hR.out]; rfl, hw3⟩
      | true =>
        go_wp2_with fail
        refine (H4.out _ hw3).mono ?_
        rintro r w4 ⟨rfl, hb4⟩
        have hA4 := hA3.below hb4
        have hA4' := hA3'.below hb4
        have hw4 := hw3.trans (hb4.mono hw3.size)
        clear hA3 hA3' hw3 hb4 q0 q1 q2 q3 q4 q5 q6 q7 q8 u0 u1 u2 u3 u4 u5 u6 u7 u8
        obtain ⟨q0, q1, q2, q3, q4, q5, q6, q7, q8⟩ := st_cells hA4
        obtain ⟨u0, u1, u2, u3, u4, u5, u6, u7, u8⟩ := st_cells hA4'
        cases p4 with
        | false =>
          go_wp2_with fail
          go_ret
          exact ⟨by rw [hR.out]; rfl, hw4⟩
        | true =>
          go_wp2_with fail
          refine (H5.out _ hw4).mono ?_
          rintro r w5 ⟨rfl, hb5⟩
          have hw5 := hw4.trans (hb5.mono hw4.size)
          clear hA4 hA4' hw4 hb5 q0 q1 q2 q3 q4 q5 q6 q7 q8 u0 u1 u2 u3 u4 u5 u6 u7 u8
          go_wp2_with fail
          go_ret
          exact ⟨by rw [hR.out]; rfl, hw5⟩
    · have hs : ¬ nm.toList = nm'.toList := by assumption
      rw [toList_bytes, toList_bytes] at hs
      have hs' : decide (nm.data.toList = nm'.data.toList) = false := decide_eq_false hs
      rw [hs', Bool.false_and] at hR
      clear hs hs'
      go_ret
      exact ⟨by rw [hR.out]; rfl, hbw⟩
  · have e0 : (k == k') = false := by rw [beq_eq_false_iff_ne]; exact hk
    have hd : decide (k = k') = false := by simpa using hk
    rw [hd, Bool.false_and] at hR
    clear hk hd
    go_wp2_with fail
    go_ret
    exact ⟨by rw [hR.out]; rfl, hbw⟩

theorem sameStmt_any (B : Nat) (N : Nat) : ∀ x : ST, SizeOf.sizeOf x < N → SameSW B x := by
  induction N with
  | zero => intro x h; omega
  | succ N ih =>
    rintro ⟨k, nm, ⟨op, t, b, enm, ea, ec, eks⟩, a1, c1, b1, a2, c2, b2⟩ hN ⟨k', nm', ⟨op', t', b', enm', ea', ec', eks'⟩, a1', c1', b1', a2', c2', b2'⟩ w hx hy hBw
    have hS1 : ∀ s ∈ b1, SameSW B s := fun s hs => ih s (by have := ST.sz1 (k := k) (nm := nm) (e := .mk op t b enm ea ec eks) (a1 := a1) (a2 := a2) (c1 := c1) (c2 := c2) (els := b2) hs; omega)
    have hS2 : ∀ s ∈ b2, SameSW B s := fun s hs => ih s (by have := ST.sz2 (k := k) (nm := nm) (e := .mk op t b enm ea ec eks) (a1 := a1) (a2 := a2) (c1 := c1) (c2 := c2) (body := b1) hs; omega)
    unfold ST.In at hx hy
    obtain ⟨_, xe, x1, x2⟩ := hx
    obtain ⟨_, ye, y1, y2⟩ := hy
    have hO : ∀ w', Below w.heap.size w w' → Old B w w' ∧ B ≤ w'.heap.size := fun w' h => ⟨Old.of_below h hBw, by have := h.size; omega⟩
    have := sameStmt_at k k' nm nm' op t b enm ea eks.length ec (.slice a1 b1.length c1) (.slice a2 b2.length c2) op' t' b' enm' ea' eks'.length ec' (.slice a1' b1'.length c1') (.slice a2' b2'.length c2') _ _ _ w
      (fun w' h => sameExpr_any B _ (.mk op t b enm ea ec eks) (Nat.lt_succ_self _) (.mk op' t' b' enm' ea' ec' eks') w' (xe.old (hO w' h).1) (ye.old (hO w' h).1) (hO w' h).2)
      (fun w' h => equalS_of B b1 b1' hS1 a1 a1' c1 c1' w' (RowS.old x1 (hO w' h).1) (RowS.old y1 (hO w' h).1) (hO w' h).2)
      (fun w' h => equalS_of B b2 b2' hS2 a2 a2' c2 c2' w' (RowS.old x2 (hO w' h).1) (RowS.old y2 (hO w' h).1) (hO w' h).2)
    refine this.mono ?_
    rintro r w' ⟨rfl, hb⟩
    refine ⟨?_, hb⟩
    show _ = Ending.returned (.bool (samS (.mk k nm.data.toList _ (ST.sts b1) (ST.sts b2)) (.mk k' nm'.data.toList _ (ST.sts b1') (ST.sts b2'))))
    rw [samS, ST.sts_eq, ST.sts_eq, ST.sts_eq, ST.sts_eq]

end Go.Proofs.YtcmahiphfpgadaaGreatDoor

/- Variables and names are told apart. -/
namespace Go.Proofs.YtcmahiphfpgadaaGreatDoor
open Go.RowKit
set_option linter.unusedVariables false

def samN (a b : List UInt8) : Bool := decide (a = b)

theorem eqV (nm : ByteArray) (t b : Nat) (nm' : ByteArray) (t' b' : Nat) (u : World) : (Op.equalIn 10000 56 (.agg #[.string nm, .int .u8 (t : Int), .int .u64 (b : Int)]) (.agg #[.string nm', .int .u8 (t' : Int), .int .u64 (b' : Int)])).run Tryz.prog u = .ok (samV (VT.vr ⟨nm, t, b⟩) (VT.vr ⟨nm', t', b'⟩)) u := by
  unfold samV VT.vr
  by_cases h0 : nm.toList = nm'.toList
  · have e0 : (nm.toList == nm'.toList) = true := by rw [beq_iff_eq]; exact h0
    have f0 : nm.data.toList = nm'.data.toList := by rw [toList_bytes, toList_bytes] at h0; exact h0
    by_cases h1 : t = t'
    · subst h1
      by_cases h2 : b = b'
      · subst h2
        go_simp
      · have e2 : ((b : Int) == (b' : Int)) = false := by rw [beq_eq_false_iff_ne]; omega
        go_simp
    · have e1 : ((t : Int) == (t' : Int)) = false := by rw [beq_eq_false_iff_ne]; omega
      go_simp
  · have e0 : (nm.toList == nm'.toList) = false := by rw [beq_eq_false_iff_ne]; exact h0
    have f0 : ¬ nm.data.toList = nm'.data.toList := by rw [toList_bytes, toList_bytes] at h0; exact h0
    go_simp

set_option maxRecDepth 100000 in
set_option maxHeartbeats 3200000 in
theorem equalN_any (B : Nat) (xs ys : List ByteArray) (a1 a2 : Option Addr) (c1 c2 : Nat) (w : World) (h1 : RowN B w a1 c1 xs) (h2 : RowN B w a2 c2 ys) (hBw : B ≤ w.heap.size) :
    Calls Tryz.prog 51 #[.slice a1 xs.length c1, .slice a2 ys.length c2] w fun r w' => r = .returned (.bool (eqL samN (xs.map (fun s : ByteArray => s.data.toList)) (ys.map (fun s : ByteArray => s.data.toList)))) ∧ Below w.heap.size w w' := by
  obtain ⟨R, hR⟩ : ∃ R, Hid (R = eqL samN (xs.map (fun s : ByteArray => s.data.toList)) (ys.map (fun s : ByteArray => s.data.toList))) := ⟨_, (rfl : _ = eqL samN _ _)⟩
  rw [← hR.out]
  obtain ⟨n, hn⟩ : ∃ n, Hid (n = xs.length) := ⟨_, (rfl : xs.length = _)⟩
  obtain ⟨n2, hn2⟩ : ∃ n, Hid (n = ys.length) := ⟨_, (rfl : ys.length = _)⟩
  have hl1 := h1.1
  have hl2 := h2.1
  have hk1 := h1.2.1
  have hk2 := h2.2.1
  rw [← hn.out] at hl1 hk1 ⊢
  rw [← hn2.out] at hl2 hk2 ⊢
  have HR : Hid (RowN B w a1 c1 xs ∧ RowN B w a2 c2 ys) := ⟨h1, h2⟩
  clear h1 h2
  by_cases hnn : n = n2
  · subst hnn
    go_enter Tryz.func51, Tryz.ntmps51
    go_wp2_with fail
    go_loopw [13] (fun j wr => ∃ i : Nat, j = .int .i64 (i : Int) ∧ i ≤ n ∧ Hid (Below w.heap.size w wr ∧ ∀ (q : Nat) (x y : List UInt8), q < i → (xs.map (fun s : ByteArray => s.data.toList))[q]? = some x → (ys.map (fun s : ByteArray => s.data.toList))[q]? = some y → samN x y = true)) (fun j _ => n - (intOf j).toNat)
    case atStart => exact ⟨0, rfl, by omega, Below.refl _ _, fun q x y hq => by omega⟩
    case round =>
      obtain ⟨i, rfl, hi, hX⟩ := hrel
      by_cases hc : i < n
      · obtain ⟨x, hx⟩ : ∃ k, xs[i]? = some k := ⟨xs[i]'(by rw [← hn.out]; exact hc), by rw [List.getElem?_eq_getElem]⟩
        obtain ⟨y, hy⟩ : ∃ k, ys[i]? = some k := ⟨ys[i]'(by rw [← hn2.out]; exact hc), by rw [List.getElem?_eq_getElem]⟩
        obtain ⟨hbw, hall⟩ := hX.out
        have hold : Old B w wr := Old.of_below hbw hBw
        obtain ⟨g1, o1, rfl, hg1, hr1⟩ := (HR.out.1.old hold).at i x hx
        obtain ⟨g2, o2, rfl, hg2, hr2⟩ := (HR.out.2.old hold).at i y hy
        have HA : Hid (∀ (q : Nat) (x y : List UInt8), q < i → (xs.map (fun s : ByteArray => s.data.toList))[q]? = some x → (ys.map (fun s : ByteArray => s.data.toList))[q]? = some y → samN x y = true) := hall
        have HXY : Hid ((xs.map (fun s : ByteArray => s.data.toList))[i]? = some ((fun s : ByteArray => s.data.toList) x) ∧ (ys.map (fun s : ByteArray => s.data.toList))[i]? = some ((fun s : ByteArray => s.data.toList) y)) := ⟨by rw [List.getElem?_map, hx]; rfl, by rw [List.getElem?_map, hy]; rfl⟩
        clear hX hold hall HR hx hy
        cases hM : samN ((fun s : ByteArray => s.data.toList) x) ((fun s : ByteArray => s.data.toList) y) with
        | false =>
          have hRf : R = false := by
            rw [hR.out, Bool.eq_false_iff]
            intro h
            have := ((eqL_iff _ _ _).1 h).2 i _ _ HXY.out.1 HXY.out.2
            rw [hM] at this
            cases this
          have hs : (x.toList == y.toList) = false := by
            rw [toList_bytes, toList_bytes, beq_eq_false_iff_ne]
            exact of_decide_eq_false hM
          clear hM
          go_wp2_with fail
          go_quiet (fail)
          go_wp2_with fail
          go_ret
          exact ⟨by rw [hRf]; rfl, below_drN hbw _⟩
        | true =>
          have HM : Hid (samN ((fun s : ByteArray => s.data.toList) x) ((fun s : ByteArray => s.data.toList) y) = true) := hM
          have hs : (x.toList == y.toList) = true := by
            rw [toList_bytes, toList_bytes, beq_iff_eq]
            exact of_decide_eq_true hM
          clear hM
          go_wp2_with fail
          go_quiet (fail)
          go_wp2_with fail
          go_roundw
          case rel =>
            refine ⟨i + 1, by go_num, by omega, below_drN hbw _, fun q u v hq hu hv => ?_⟩
            by_cases hqi : q = i
            · subst hqi
              rw [HXY.out.1] at hu
              rw [HXY.out.2] at hv
              cases hu
              cases hv
              exact HM.out
            · exact HA.out q u v (by omega) hu hv
          case measure => simp [intOf]; omega
      · have hin : i = n := by omega
        obtain ⟨hbw, hall⟩ := hX.out
        have hRt : R = true := by
          rw [hR.out, eqL_iff, List.length_map, List.length_map, ← hn.out, ← hn2.out]
          refine ⟨rfl, fun q u v hu hv => hall q u v ?_ hu hv⟩
          have := (List.getElem?_eq_some_iff.1 hu).1
          rw [List.length_map, ← hn.out] at this
          omega
        clear hX hall hin HR
        go_wp2
        go_ret
        exact ⟨by rw [hRt]; rfl, hbw⟩
  · have hne : ((n : Int) == (n2 : Int)) = false := by rw [beq_eq_false_iff_ne]; omega
    have hRf : R = false := by
      rw [hR.out, Bool.eq_false_iff]
      intro h
      have := (eqL_iff _ _ _).1 h
      rw [List.length_map, List.length_map, ← hn.out, ← hn2.out] at this
      exact hnn this.1
    clear hnn
    go_enter Tryz.func51, Tryz.ntmps51
    go_wp2_with fail
    go_ret
    exact ⟨by rw [hRf]; rfl, Below.refl _ _⟩

set_option maxRecDepth 100000 in
set_option maxHeartbeats 3200000 in
theorem equalV_any (B : Nat) (xs ys : List VT) (a1 a2 : Option Addr) (c1 c2 : Nat) (w : World) (h1 : RowV B w a1 c1 xs) (h2 : RowV B w a2 c2 ys) (hBw : B ≤ w.heap.size) :
    Calls Tryz.prog 50 #[.slice a1 xs.length c1, .slice a2 ys.length c2] w fun r w' => r = .returned (.bool (eqL samV (xs.map VT.vr) (ys.map VT.vr))) ∧ Below w.heap.size w w' := by
  obtain ⟨R, hR⟩ : ∃ R, Hid (R = eqL samV (xs.map VT.vr) (ys.map VT.vr)) := ⟨_, (rfl : _ = eqL samV _ _)⟩
  rw [← hR.out]
  obtain ⟨n, hn⟩ : ∃ n, Hid (n = xs.length) := ⟨_, (rfl : xs.length = _)⟩
  obtain ⟨n2, hn2⟩ : ∃ n, Hid (n = ys.length) := ⟨_, (rfl : ys.length = _)⟩
  have hl1 := h1.1
  have hl2 := h2.1
  have hk1 := h1.2.1
  have hk2 := h2.2.1
  rw [← hn.out] at hl1 hk1 ⊢
  rw [← hn2.out] at hl2 hk2 ⊢
  have HR : Hid (RowV B w a1 c1 xs ∧ RowV B w a2 c2 ys) := ⟨h1, h2⟩
  clear h1 h2
  by_cases hnn : n = n2
  · subst hnn
    go_enter Tryz.func50, Tryz.ntmps50
    go_wp2_with fail
    go_loopw [13] (fun j wr => ∃ i : Nat, j = .int .i64 (i : Int) ∧ i ≤ n ∧ Hid (Below w.heap.size w wr ∧ ∀ (q : Nat) (x y : Vr), q < i → (xs.map VT.vr)[q]? = some x → (ys.map VT.vr)[q]? = some y → samV x y = true)) (fun j _ => n - (intOf j).toNat)
    case atStart => exact ⟨0, rfl, by omega, Below.refl _ _, fun q x y hq => by omega⟩
    case round =>
      obtain ⟨i, rfl, hi, hX⟩ := hrel
      by_cases hc : i < n
      · obtain ⟨x, hx⟩ : ∃ k, xs[i]? = some k := ⟨xs[i]'(by rw [← hn.out]; exact hc), by rw [List.getElem?_eq_getElem]⟩
        obtain ⟨y, hy⟩ : ∃ k, ys[i]? = some k := ⟨ys[i]'(by rw [← hn2.out]; exact hc), by rw [List.getElem?_eq_getElem]⟩
        obtain ⟨hbw, hall⟩ := hX.out
        have hold : Old B w wr := Old.of_below hbw hBw
        obtain ⟨g1, o1, rfl, hg1, hr1, hi1⟩ := (HR.out.1.old hold).at i x hx
        obtain ⟨g2, o2, rfl, hg2, hr2, hi2⟩ := (HR.out.2.old hold).at i y hy
        obtain ⟨nm, t, b⟩ := x
        obtain ⟨nm', t', b'⟩ := y
        have x0 : wr.cell? ⟨g1, o1 + i * 3, none⟩ = some (.string nm) := by have := hr1 0 _ rfl; simpa using this
        have x1 : wr.cell? ⟨g1, o1 + i * 3 + 1, none⟩ = some (.int .u8 (t : Int)) := hr1 1 _ rfl
        have x2 : wr.cell? ⟨g1, o1 + i * 3 + 2, none⟩ = some (.int .u64 (b : Int)) := hr1 2 _ rfl
        have y0 : wr.cell? ⟨g2, o2 + i * 3, none⟩ = some (.string nm') := by have := hr2 0 _ rfl; simpa using this
        have y1 : wr.cell? ⟨g2, o2 + i * 3 + 1, none⟩ = some (.int .u8 (t' : Int)) := hr2 1 _ rfl
        have y2 : wr.cell? ⟨g2, o2 + i * 3 + 2, none⟩ = some (.int .u64 (b' : Int)) := hr2 2 _ rfl
        have hq := eqV nm t b nm' t' b'
        clear hr1 hr2 hi1 hi2
        have HA : Hid (∀ (q : Nat) (x y : Vr), q < i → (xs.map VT.vr)[q]? = some x → (ys.map VT.vr)[q]? = some y → samV x y = true) := hall
        have HXY : Hid ((xs.map VT.vr)[i]? = some (VT.vr ⟨nm, t, b⟩) ∧ (ys.map VT.vr)[i]? = some (VT.vr ⟨nm', t', b'⟩)) := ⟨by rw [List.getElem?_map, hx]; rfl, by rw [List.getElem?_map, hy]; rfl⟩
        clear hX hold hall HR hx hy
        cases hM : samV (VT.vr ⟨nm, t, b⟩) (VT.vr ⟨nm', t', b'⟩) with
        | false =>
          have hRf : R = false := by
            rw [hR.out, Bool.eq_false_iff]
            intro h
            have := ((eqL_iff _ _ _).1 h).2 i _ _ HXY.out.1 HXY.out.2
            rw [hM] at this
            cases this
          have hq' : ∀ u, (Op.equalIn 10000 56 (.agg #[.string nm, .int .u8 (t : Int), .int .u64 (b : Int)]) (.agg #[.string nm', .int .u8 (t' : Int), .int .u64 (b' : Int)])).run Tryz.prog u = .ok false u := fun u => by rw [hq]; exact congrArg (fun z => Result.ok z u) hM
          clear hq
          clear hM
          go_wp2_with fail
          go_quiet (fail)
          go_wp2_with fail
          go_ret
          exact ⟨by rw [hRf]; rfl, below_drN hbw _⟩
        | true =>
          have HM : Hid (samV (VT.vr ⟨nm, t, b⟩) (VT.vr ⟨nm', t', b'⟩) = true) := hM
          have hq' : ∀ u, (Op.equalIn 10000 56 (.agg #[.string nm, .int .u8 (t : Int), .int .u64 (b : Int)]) (.agg #[.string nm', .int .u8 (t' : Int), .int .u64 (b' : Int)])).run Tryz.prog u = .ok true u := fun u => by rw [hq]; exact congrArg (fun z => Result.ok z u) hM
          clear hq
          clear hM
          go_wp2_with fail
          go_quiet (fail)
          go_wp2_with fail
          go_roundw
          case rel =>
            refine ⟨i + 1, by go_num, by omega, below_drN hbw _, fun q u v hq hu hv => ?_⟩
            by_cases hqi : q = i
            · subst hqi
              rw [HXY.out.1] at hu
              rw [HXY.out.2] at hv
              cases hu
              cases hv
              exact HM.out
            · exact HA.out q u v (by omega) hu hv
          case measure => simp [intOf]; omega
      · have hin : i = n := by omega
        obtain ⟨hbw, hall⟩ := hX.out
        have hRt : R = true := by
          rw [hR.out, eqL_iff, List.length_map, List.length_map, ← hn.out, ← hn2.out]
          refine ⟨rfl, fun q u v hu hv => hall q u v ?_ hu hv⟩
          have := (List.getElem?_eq_some_iff.1 hu).1
          rw [List.length_map, ← hn.out] at this
          omega
        clear hX hall hin HR
        go_wp2
        go_ret
        exact ⟨by rw [hRt]; rfl, hbw⟩
  · have hne : ((n : Int) == (n2 : Int)) = false := by rw [beq_eq_false_iff_ne]; omega
    have hRf : R = false := by
      rw [hR.out, Bool.eq_false_iff]
      intro h
      have := (eqL_iff _ _ _).1 h
      rw [List.length_map, List.length_map, ← hn.out, ← hn2.out] at this
      exact hnn this.1
    clear hnn
    go_enter Tryz.func50, Tryz.ntmps50
    go_wp2_with fail
    go_ret
    exact ⟨by rw [hRf]; rfl, Below.refl _ _⟩
end Go.Proofs.YtcmahiphfpgadaaGreatDoor
