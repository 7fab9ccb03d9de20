/- Joined texts of the proof. -/
import Derived.Test.YtjgggmjjikopeaaGreatDoorJ14
import Derived.Test.YtjgggmjjikopeaaGreatDoorJ12
import Derived.Deep.AppendLies
import Derived.Great.BuildSlice

/- The reader of programs: variables. -/
namespace Go.Proofs.YtjgggmjjikopeaaGreatDoor
open Go.RowKit
set_option linter.unusedVariables false

/-- What the reader of a variable tells. -/
def PostVr (B g : Nat) (w : World) (R : Rs Vr) (r : Ending) (w' : World) : Prop :=
  match R with
  | .ok v l => r = .returned (.agg (VT.cells ⟨⟨v.nm.toArray⟩, v.t, v.b⟩).toArray) ∧ (v.t < 256 ∧ v.b < 18446744073709551616) ∧ Rd B w' g l ∧ But g w w'
  | .bad e p => r = PanW e p ∧ But g w w'
theorem typeR_lt {l r : List Tk} {t : Nat} (h : typeR l = .ok t r) : t < 256 := by
  unfold typeR at h
  split at h
  · cases h; decide
  · split at h
    · cases h; decide
    · split at h
      · cases h; decide
      · cases h
theorem valueM_lt {m : Bool} {t p : Nat} {l r : List Tk} {v : Nat × Nat} (hb : (hdT l).bits < 18446744073709551616) (h : valueM m t p l = .ok v r) : v.1 < 256 ∧ v.2 < 18446744073709551616 := by
  have hlv := lit_lt hb
  unfold valueM at h
  split at h
  · cases h
  · next u hu =>
    have hv : litV (hdT l) = u := by unfold litV; rw [hu]; rfl
    rw [hv] at hlv
    split at h
    · cases h
    · split at h
      · cases h
        cases m
        · exact hlv
        · exact negV_lt u hlv.2
      · cases h
theorem valueR_lt {B : Nat} {w : World} {g t : Nat} {l r : List Tk} {v : Nat × Nat} (hR : Rd B w g l) (h : valueR t l = .ok v r) : v.1 < 256 ∧ v.2 < 18446744073709551616 := by
  unfold valueR at h
  split at h
  · next hc => exact valueM_lt (bit_tail hR hc) h
  · exact valueM_lt hR.bit h

set_option maxRecDepth 100000 in
set_option maxHeartbeats 6400000 in
theorem variable_any {B : Nat} (g : Nat) (l : List Tk) (w : World) (h : Rd B w g l) (hBw : B ≤ w.heap.size) : Calls Tryz.prog 56 #[.pointer (some ⟨g, 0, none⟩)] w (PostVr B g w (variableR l)) := by
  have lg := h.lt
  have H57 : Hid (∀ u, Below w.heap.size w u → Calls Tryz.prog 57 #[.pointer (some ⟨g, 0, none⟩)] u (PostN B g u (nameR l))) := fun u hu => readName_any g l u (h.below hu)
  clear h
  obtain ⟨D, hD⟩ : ∃ D, Hid (D = variableR l) := ⟨_, (rfl : variableR l = _)⟩
  rw [← hD.out]
  unfold variableR at hD
  generalize nameR l = N at H57 hD
  go_enter Tryz.func56, Tryz.ntmps56
  go_wp2_with (first
    | ((with_reducible show wpList _ _ _ _ _ _); refine wpList_alloc_at rfl 48 rfl [.string ⟨#[]⟩, .int .u8 0, .int .u64 0] 3 z79 ?_; intro w1 hA1 hb1 hs1; clear hs1; refine Hid.out ?_))
  refine hidU ?_
  have C57 := H57.out w1 hb1
  have l01 := hA1.lt
  cases N with
  | bad e p =>
    have hD' : D = .bad e p := hD.out
    subst hD'
    go_wp2_with (go_at_call 57; refine C57.mono ?_; rintro r w2 ⟨hr, hb2⟩; unfold PanW at hr; subst hr)
    exact ⟨rfl, rfl, (But.of_below hb1).trans hb2⟩
  | ok x r1 =>
  have hD1 : Hid (D = (typeR r1).bind fun t r => (initR t r).bind fun v r => (mustR [59] r).bind fun _ r => .ok ⟨x, v.1, v.2⟩ r) := hD
  clear hD H57
  go_wp2_with (go_at_call 57; refine C57.mono ?_; rintro r w2 ⟨rfl, hR2, hb2⟩; refine Hid.out ?_)
  refine hidU ?_
  have hA1 := hb2.at hA1 (by omega)
  have hbt : But g w w2 := (But.of_below hb1).trans hb2
  have l12 := hb2.size
  clear C57 hb1 hb2
  have C94 := typeWord_any g r1 w2 hR2
  have hTl := @typeR_lt r1
  clear hR2
  generalize typeR r1 = N at C94 hD1 hTl
  cases N with
  | bad e p =>
    have hD' : D = .bad e p := hD1.out
    subst hD'
    clear hTl
    go_wp2_with (go_at_call 94; refine C94.mono ?_; rintro r w3 ⟨hr, hb3⟩; unfold PanW at hr; subst hr)
    exact ⟨rfl, rfl, hbt.trans hb3⟩
  | ok t r2 =>
  have htl : t < 256 := hTl rfl
  have hD2 : Hid (D = (initR t r2).bind fun v r => (mustR [59] r).bind fun _ r => .ok ⟨x, v.1, v.2⟩ r) := hD1
  clear hD1 hTl
  go_wp2_with (first
    | (go_at_call 94; refine C94.mono ?_; rintro r w3 ⟨rfl, hR3, hb3⟩)
    | ((with_reducible show wpList _ _ _ _ _ _); refine wpList_build_at rfl 40 _ rfl (val2 t 0) (by kernel_rfl) ?_)
    | ((with_reducible show wpList _ _ _ _ _ _); refine wpList_alloc_at rfl 40 rfl (val2 0 0) 2 z32 ?_; intro w4 hA4 hb4 hs4; clear hs4)
    | ((with_reducible show wpList _ _ _ _ _ _); refine wpList_store_at (P := Tryz.prog) rfl 40 (.tmp 4) (.tmp 9) rfl w3.heap.size (val2 t 0) rfl rfl 40 _ hA4 i32 rfl (one2 _ _) ?_; intro w5 hA5 hb5 hs5; clear hs5; refine Hid.out ?_))
  refine hidU ?_
  have h35 : Below w3.heap.size w3 w5 := hb5.below hb4 (Nat.le_refl _) hb4.size
  have l23 := hb3.size
  have l35 := hA5.lt
  have hA1 := (hb3.at hA1 (by omega)).below h35
  have hR5 := hR3.below h35
  have hbt := (hbt.trans hb3).trans (But.of_below h35)
  obtain ⟨gv, hgv⟩ : ∃ q, q = w3.heap.size := ⟨_, rfl⟩
  rw [← hgv] at hA5 l35 ⊢
  have lgv : w.heap.size < gv := by omega
  clear C94 hR3 hb3 hA4 hb4 hb5 h35 hgv l23
  have HF : Hid (∀ (vt vb : Nat) (r3 : List Tk) (X : World), At 48 X w.heap.size [.string ⟨#[]⟩, .int .u8 0, .int .u64 0] → At 40 X gv (val2 vt vb) → Rd B X g r3 → But g w X → vt < 256 ∧ vb < 18446744073709551616 → True) := fun _ _ _ _ _ _ _ _ _ => trivial
  clear HF
  by_cases hc : (hdT r2).text = [61]
  · have hi : initR t r2 = valueR t r2.tail := by unfold initR; rw [if_pos hc]
    rw [hi] at hD2
    have C55 := takes_yes g r2 ⟨#[61]⟩ (by decide) hc w5 hR5
    clear hi hc hR5
    generalize r2.tail = r2 at *
    go_wp2_with (go_at_call 55; refine C55.mono ?_; rintro r w6 ⟨rfl, hR6, hb6⟩; refine Hid.out ?_)
    refine hidU ?_
    have l56 := hb6.size
    have hA1 := hb6.at hA1 (by omega)
    have hA5 := hb6.at hA5 (by omega)
    have hbt := hbt.trans hb6
    have C95 := value95_any g t r2 w6 hR6 (by omega)
    have hVl := fun v r => @valueR_lt B w6 g t r2 r v hR6
    obtain ⟨c0, -⟩ := vl_cells hA5
    clear C55 hb6 hR6
    generalize valueR t r2 = N at C95 hD2 hVl
    cases N with
    | bad e p =>
      have hD' : D = .bad e p := hD2.out
      subst hD'
      clear hVl
      go_wp2_with (go_at_call 95; refine C95.mono ?_; rintro r w7 ⟨hr, hb7⟩; unfold PanW at hr; subst hr)
      exact ⟨rfl, rfl, hbt.trans hb7⟩
    | ok v r3 =>
    obtain ⟨vt, vb⟩ := v
    have hvl := hVl (vt, vb) r3 rfl
    have hD3 : Hid (D = (mustR [59] r3).bind fun _ r => .ok ⟨x, vt, vb⟩ r) := hD2
    clear hD2 hVl
    go_wp2_with (first
      | (go_at_call 95; refine C95.mono ?_; rintro r w7 ⟨rfl, hR7, hb7⟩; have hA5 := hb7.at hA5 (by omega))
      | ((with_reducible show wpList _ _ _ _ _ _); refine wpList_store_at (P := Tryz.prog) rfl 40 (.tmp 4) (.tmp 15) rfl gv (val2 vt vb) rfl rfl 40 _ hA5 i32 rfl (one2 _ _) ?_; intro w8 hA8 hb8 hs8; clear hs8; refine Hid.out ?_))
    refine hidU ?_
    have l67 := hb7.size
    have hA1 := hb8.at (hb7.at hA1 (by omega)) (by omega)
    have hR8 := hR7.but hb8 (by omega)
    have hbt := (hbt.trans hb7).fresh hb8 (by omega)
    have l78 := hb8.size
    clear C95 hR7 hb7 hb8 hA5 c0
    have C58 := must_any g r3 ⟨#[59]⟩ (by decide) w8 hR8
    have eb : bytes ⟨#[59]⟩ = [59] := rfl
    rw [eb] at C58
    clear eb hR8
    generalize mustR [59] r3 = N at C58 hD3
    cases N with
    | bad e p =>
      have hD' : D = .bad e p := hD3.out
      subst hD'
      go_wp2_with (go_at_call 58; refine C58.mono ?_; rintro r w9 ⟨hr, hb9⟩; unfold PanW at hr; subst hr)
      exact ⟨rfl, rfl, hbt.trans hb9⟩
    | ok u r4 =>
    have hD' : D = .ok ⟨x, vt, vb⟩ r4 := hD3.out
    subst hD'
    go_wp2_with (go_at_call 58; refine C58.mono ?_; rintro r w9 ⟨rfl, hR9, hb9⟩; refine Hid.out ?_)
    refine hidU ?_
    have hA1 := hb9.at hA1 (by omega)
    have hA5 := hb9.at hA8 (by omega)
    have hbt := hbt.trans hb9
    clear C58 hb9
    go_wp2_with (first
      | ((with_reducible show wpList _ _ _ _ _ _); refine wpList_load_at (P := Tryz.prog) rfl 40 (.tmp 4) rfl gv rfl 40 (val2 vt vb) hA5 _ Tryz.underlying40 rfl i32 ?_)
      | ((with_reducible show wpList _ _ _ _ _ _); refine wpList_build_at rfl 48 _ rfl (VT.cells ⟨⟨x.toArray⟩, vt, vb⟩) (by kernel_rfl) ?_)
      | ((with_reducible show wpList _ _ _ _ _ _); refine wpList_store_at (P := Tryz.prog) rfl 48 (.tmp 2) (.tmp 20) rfl w.heap.size (VT.cells ⟨⟨x.toArray⟩, vt, vb⟩) rfl rfl 48 _ hA1 i79 rfl (VT.one _) ?_; intro wE hAE hbE hsE))
    refine bodyPost_ret (results_at rfl _ _ w.heap.size 48 (VT.cells ⟨⟨x.toArray⟩, vt, vb⟩) _ rfl hAE Tryz.underlying48 rfl i79) rfl ?_
    exact ⟨rfl, hvl, hR9.but hbE hBw, hbt.fresh hbE (Nat.le_refl _)⟩

  · have hi : initR t r2 = .ok (t, 0) r2 := by unfold initR; rw [if_neg hc]
    rw [hi] at hD2
    have C55 := takes_no g r2 ⟨#[61]⟩ (by decide) hc w5 hR5
    have hD3 : Hid (D = (mustR [59] r2).bind fun _ r => .ok ⟨x, t, 0⟩ r) := hD2
    clear hi hc hR5 hD2
    go_wp2_with (go_at_call 55; refine C55.mono ?_; rintro r w6 ⟨rfl, hR6, hb6⟩; refine Hid.out ?_)
    refine hidU ?_
    have l56 := hb6.size
    have hA1 := hb6.at hA1 (by omega)
    have hA5 := hb6.at hA5 (by omega)
    have hbt := hbt.trans hb6
    clear C55 hb6
    have C58 := must_any g r2 ⟨#[59]⟩ (by decide) w6 hR6
    have eb : bytes ⟨#[59]⟩ = [59] := rfl
    rw [eb] at C58
    clear eb hR6
    generalize mustR [59] r2 = N at C58 hD3
    cases N with
    | bad e p =>
      have hD' : D = .bad e p := hD3.out
      subst hD'
      go_wp2_with (go_at_call 58; refine C58.mono ?_; rintro r w9 ⟨hr, hb9⟩; unfold PanW at hr; subst hr)
      exact ⟨rfl, rfl, hbt.trans hb9⟩
    | ok u r4 =>
    have hD' : D = .ok ⟨x, t, 0⟩ r4 := hD3.out
    subst hD'
    go_wp2_with (go_at_call 58; refine C58.mono ?_; rintro r w9 ⟨rfl, hR9, hb9⟩; refine Hid.out ?_)
    refine hidU ?_
    have hA1 := hb9.at hA1 (by omega)
    have hA5 := hb9.at hA5 (by omega)
    have hbt := hbt.trans hb9
    clear C58 hb9
    go_wp2_with (first
      | ((with_reducible show wpList _ _ _ _ _ _); refine wpList_load_at (P := Tryz.prog) rfl 40 (.tmp 4) rfl gv rfl 40 (val2 t 0) hA5 _ Tryz.underlying40 rfl i32 ?_)
      | ((with_reducible show wpList _ _ _ _ _ _); refine wpList_build_at rfl 48 _ rfl (VT.cells ⟨⟨x.toArray⟩, t, 0⟩) (by kernel_rfl) ?_)
      | ((with_reducible show wpList _ _ _ _ _ _); refine wpList_store_at (P := Tryz.prog) rfl 48 (.tmp 2) (.tmp 20) rfl w.heap.size (VT.cells ⟨⟨x.toArray⟩, t, 0⟩) rfl rfl 48 _ hA1 i79 rfl (VT.one _) ?_; intro wE hAE hbE hsE))
    refine bodyPost_ret (results_at rfl _ _ w.heap.size 48 (VT.cells ⟨⟨x.toArray⟩, t, 0⟩) _ rfl hAE Tryz.underlying48 rfl i79) rfl ?_
    exact ⟨rfl, ⟨htl, show (0 : Nat) < 18446744073709551616 by decide⟩, hR9.but hbE hBw, hbt.fresh hbE (Nat.le_refl _)⟩

end Go.Proofs.YtjgggmjjikopeaaGreatDoor

/- The reader of programs: statements without blocks. -/
namespace Go.Proofs.YtjgggmjjikopeaaGreatDoor
open Go.RowKit
set_option linter.unusedVariables false

/-- A statement that lies whole in blocks from A on. -/
def Ts (A : Nat) (w : World) (y : ST) : Prop := y.In w.heap.size w ∧ y.Lies (fun k => A ≤ k)
mutual
theorem ST.In.up {B B' : Nat} {w : World} (hB : B ≤ B') : ∀ {s : ST}, s.In B w → s.In B' w
  | .mk k nm e a1 c1 body a2 c2 els, h => by
    unfold ST.In at h ⊢
    obtain ⟨h1, h2, ⟨h3, h4, h5⟩, h6, h7, h8⟩ := h
    refine ⟨h1, h2.up hB, ⟨h3, h4, ?_⟩, h6, h7, ?_⟩
    · rcases h5 with h5 | ⟨g, o, ha, hg, hr⟩
      · exact .inl h5
      · exact .inr ⟨g, o, ha, by omega, ST.Row.up hB hr⟩
    · rcases h8 with h8 | ⟨g, o, ha, hg, hr⟩
      · exact .inl h8
      · exact .inr ⟨g, o, ha, by omega, ST.Row.up hB hr⟩
theorem ST.Row.up {B B' : Nat} {w : World} (hB : B ≤ B') {g : Nat} : ∀ {ks : List ST} {o : Nat}, ST.Row B w g ks o → ST.Row B' w g ks o
  | [], o, _ => by unfold ST.Row; trivial
  | s :: r, o, h => by
    unfold ST.Row at h ⊢
    exact ⟨h.1, ST.In.up hB h.2.1, ST.Row.up hB h.2.2⟩
end
theorem Ts.but {A k : Nat} {w w' : World} {y : ST} (h : Ts A w y) (hb : But k w w') (hk : k < A ∨ w.heap.size ≤ k) : Ts A w' y :=
  ⟨ST.In.up hb.size (ST.In.stay (S := fun j => A ≤ j) (fun j hj hl => hb.block j hl (by omega)) h.1 h.2), h.2⟩
theorem Ts.below {A : Nat} {w w' : World} {y : ST} (h : Ts A w y) (hb : Below w.heap.size w w') : Ts A w' y := h.but (But.of_below (g := w.heap.size) hb) (.inr (Nat.le_refl _))
theorem Ts.low {A A' : Nat} {w : World} {y : ST} (h : Ts A w y) (hA : A' ≤ A) : Ts A' w y := ⟨h.1, h.2.mono fun k hk => Nat.le_trans hA hk⟩
/-- What the readers of statements tell. -/
def PostS (B g : Nat) (w : World) (R : Rs St) (r : Ending) (w' : World) : Prop :=
  match R with
  | .ok s l => ∃ y : ST, r = .returned (.agg y.cells.toArray) ∧ y.st = s ∧ Ts w.heap.size w' y ∧ Rd B w' g l ∧ But g w w'
  | .bad e p => r = PanW e p ∧ But g w w'
/-- A row of statements that lies whole in blocks from A on. -/
def Tl (A : Nat) (w : World) (a : Option Addr) (c : Nat) (ys : List ST) : Prop := RowS w.heap.size w a c ys ∧ (ys = [] ∨ ∃ g o, a = some ⟨g, o, none⟩ ∧ A ≤ g) ∧ ST.LiesL (fun k => A ≤ k) ys
/-- What the readers of blocks tell. -/
def PostL (B g : Nat) (w : World) (R : Rs (List St)) (r : Ending) (w' : World) : Prop :=
  match R with
  | .ok ss l => ∃ (a : Option Addr) (c : Nat) (ys : List ST), r = .returned (.slice a ys.length c) ∧ ys.map ST.st = ss ∧ Tl w.heap.size w' a c ys ∧ Rd B w' g l ∧ But g w w'
  | .bad e p => r = PanW e p ∧ But g w w'
theorem expr38_any {B : Nat} (g : Nat) (l : List Tk) (w : World) (h : Rd B w g l) (hBw : B ≤ w.heap.size) : Calls Tryz.prog 38 #[.pointer (some ⟨g, 0, none⟩), .int .i64 0] w (PostX B g w (exprR l)) :=
  exprX_any 0 l (exprR l) (by decide) ⟨_, exprR_row l⟩ B g w h hBw
theorem i51 (y : ST) : (Tryz.prog.info? 51).map (·.size) = some y.cells.length := by rw [ST.cells_len]; exact i38
theorem z51 : (Tryz.prog.info? 51).map (fun i => (i.zero, i.size)) = some (some (.agg (ST.cells (.mk 0 ⟨#[]⟩ (ET.mk 0 0 0 ⟨#[]⟩ none 0 []) none 0 [] none 0 [])).toArray), 9) := by kernel_rfl
theorem len51 (x y : ST) : x.cells.length = y.cells.length := by rw [ST.cells_len, ST.cells_len]
theorem simple_ts {A : Nat} {w : World} (k : Int) (hk : -9223372036854775808 ≤ k ∧ k ≤ 9223372036854775807) (nm : ByteArray) (e : ET) (he : Tw A w e) : Ts A w (.mk k nm e none 0 [] none 0 []) := by
  refine ⟨?_, ?_⟩
  · unfold ST.In
    exact ⟨hk, he.1, ⟨by simp, by simp, .inl rfl⟩, by simp, by simp, .inl rfl⟩
  · unfold ST.Lies
    exact ⟨he.2, ⟨.inl rfl, by unfold ST.LiesL; trivial⟩, .inl rfl, by unfold ST.LiesL; trivial⟩

set_option maxRecDepth 100000 in
set_option maxHeartbeats 6400000 in
theorem simple_any {B : Nat} (g : Nat) (l : List Tk) (w : World) (h : Rd B w g l) (hBw : B ≤ w.heap.size) : Calls Tryz.prog 164 #[.pointer (some ⟨g, 0, none⟩)] w (PostS B g w (simpleR l)) := by
  have lg := h.lt
  obtain ⟨D, hD⟩ : ∃ D, Hid (D = simpleR l) := ⟨_, (rfl : simpleR l = _)⟩
  rw [← hD.out]
  unfold simpleR at hD
  have HR : Hid (Rd B w g l) := h
  clear h
  by_cases c0 : (hdT l).text = [108, 111, 99, 107]
  · rw [if_pos c0] at hD
    go_enter Tryz.func164, Tryz.ntmps164
    go_wp2_with (first
      | ((with_reducible show wpList _ _ _ _ _ _); refine wpList_alloc_at rfl 51 rfl (ST.cells (.mk 0 ⟨#[]⟩ (ET.mk 0 0 0 ⟨#[]⟩ none 0 []) none 0 [] none 0 [])) 9 z51 ?_; intro w1 hA1 hb1 hs1; clear hs1; refine Hid.out ?_))
    refine hidU ?_
    have l01 := hA1.lt
    have hR := HR.out.below hb1
    have hbt : But g w w1 := But.of_below hb1
    clear hb1 HR
    have C := takes_yes g l ⟨#[108, 111, 99, 107]⟩ (by decide) c0 w1 hR
    clear hR c0
    go_wp2_with (go_at_call 55; refine C.mono ?_; rintro r w2 ⟨rfl, hR, hb⟩; refine Hid.out ?_)
    refine hidU ?_
    have hA1 := hb.at hA1 (by omega)
    have hbt := hbt.trans hb
    have l2 := hb.size
    clear C hb
    have C := readName_any g l.tail w2 hR
    clear hR
    generalize nameR l.tail = N at C hD
    cases N with
    | bad e p =>
      have hD' : D = .bad e p := hD.out
      subst hD'
      go_wp2_with (go_at_call 57; refine C.mono ?_; rintro r wN ⟨hr, hb⟩; unfold PanW at hr; subst hr)
      exact ⟨rfl, rfl, hbt.trans hb⟩
    | ok x r1 =>
    have hD' : D = .ok (.mk 2 x noE [] []) r1 := hD.out
    subst hD'
    go_wp2_with (go_at_call 57; refine C.mono ?_; rintro r wN ⟨rfl, hR, hb⟩; refine Hid.out ?_)
    refine hidU ?_
    have hA1 := hb.at hA1 (by omega)
    have hbt := hbt.trans hb
    clear C hb
    go_wp2_with (first
      | ((with_reducible show wpList _ _ _ _ _ _); refine wpList_build_at rfl 51 _ rfl (ST.cells (ST.mk 2 ⟨x.toArray⟩ (ET.mk 0 0 0 ⟨#[]⟩ none 0 []) none 0 [] none 0 [])) (by kernel_rfl) ?_)
      | ((with_reducible show wpList _ _ _ _ _ _); refine wpList_store_at (P := Tryz.prog) rfl 51 (.tmp 2) (.tmp 9) rfl w.heap.size (ST.cells (ST.mk 2 ⟨x.toArray⟩ (ET.mk 0 0 0 ⟨#[]⟩ none 0 []) none 0 [] none 0 [])) rfl rfl 51 _ hA1 (i51 _) (len51 _ _) (ST.one _) ?_; intro wE hAE hbE hsE; clear hsE))
    refine bodyPost_ret (results_at rfl _ _ w.heap.size 51 (ST.cells (ST.mk 2 ⟨x.toArray⟩ (ET.mk 0 0 0 ⟨#[]⟩ none 0 []) none 0 [] none 0 [])) _ rfl hAE Tryz.underlying51 rfl (i51 _)) rfl ?_
    refine ⟨(ST.mk 2 ⟨x.toArray⟩ (ET.mk 0 0 0 ⟨#[]⟩ none 0 []) none 0 [] none 0 []), rfl, ?_, simple_ts _ (by decide) _ _ (noX_tw _ _), hR.but hbE hBw, hbt.fresh hbE (Nat.le_refl _)⟩
    unfold ST.st
    rfl
  rw [if_neg c0] at hD
  by_cases c1 : (hdT l).text = [117, 110, 108, 111, 99, 107]
  · rw [if_pos c1] at hD
    go_enter Tryz.func164, Tryz.ntmps164
    go_wp2_with (first
      | ((with_reducible show wpList _ _ _ _ _ _); refine wpList_alloc_at rfl 51 rfl (ST.cells (.mk 0 ⟨#[]⟩ (ET.mk 0 0 0 ⟨#[]⟩ none 0 []) none 0 [] none 0 [])) 9 z51 ?_; intro w1 hA1 hb1 hs1; clear hs1; refine Hid.out ?_))
    refine hidU ?_
    have l01 := hA1.lt
    have hR := HR.out.below hb1
    have hbt : But g w w1 := But.of_below hb1
    clear hb1 HR
    have C := takes_no g l ⟨#[108, 111, 99, 107]⟩ (by decide) c0 w1 hR
    clear hR c0
    go_wp2_with (go_at_call 55; refine C.mono ?_; rintro r w2 ⟨rfl, hR, hb⟩; refine Hid.out ?_)
    refine hidU ?_
    have hA1 := hb.at hA1 (by omega)
    have hbt := hbt.trans hb
    have l2 := hb.size
    clear C hb
    have C := takes_yes g l ⟨#[117, 110, 108, 111, 99, 107]⟩ (by decide) c1 w2 hR
    clear hR c1
    go_wp2_with (go_at_call 55; refine C.mono ?_; rintro r w3 ⟨rfl, hR, hb⟩; refine Hid.out ?_)
    refine hidU ?_
    have hA1 := hb.at hA1 (by omega)
    have hbt := hbt.trans hb
    have l3 := hb.size
    clear C hb
    have C := readName_any g l.tail w3 hR
    clear hR
    generalize nameR l.tail = N at C hD
    cases N with
    | bad e p =>
      have hD' : D = .bad e p := hD.out
      subst hD'
      go_wp2_with (go_at_call 57; refine C.mono ?_; rintro r wN ⟨hr, hb⟩; unfold PanW at hr; subst hr)
      exact ⟨rfl, rfl, hbt.trans hb⟩
    | ok x r1 =>
    have hD' : D = .ok (.mk 3 x noE [] []) r1 := hD.out
    subst hD'
    go_wp2_with (go_at_call 57; refine C.mono ?_; rintro r wN ⟨rfl, hR, hb⟩; refine Hid.out ?_)
    refine hidU ?_
    have hA1 := hb.at hA1 (by omega)
    have hbt := hbt.trans hb
    clear C hb
    go_wp2_with (first
      | ((with_reducible show wpList _ _ _ _ _ _); refine wpList_build_at rfl 51 _ rfl (ST.cells (ST.mk 3 ⟨x.toArray⟩ (ET.mk 0 0 0 ⟨#[]⟩ none 0 []) none 0 [] none 0 [])) (by kernel_rfl) ?_)
      | ((with_reducible show wpList _ _ _ _ _ _); refine wpList_store_at (P := Tryz.prog) rfl 51 (.tmp 2) (.tmp 15) rfl w.heap.size (ST.cells (ST.mk 3 ⟨x.toArray⟩ (ET.mk 0 0 0 ⟨#[]⟩ none 0 []) none 0 [] none 0 [])) rfl rfl 51 _ hA1 (i51 _) (len51 _ _) (ST.one _) ?_; intro wE hAE hbE hsE; clear hsE))
    refine bodyPost_ret (results_at rfl _ _ w.heap.size 51 (ST.cells (ST.mk 3 ⟨x.toArray⟩ (ET.mk 0 0 0 ⟨#[]⟩ none 0 []) none 0 [] none 0 [])) _ rfl hAE Tryz.underlying51 rfl (i51 _)) rfl ?_
    refine ⟨(ST.mk 3 ⟨x.toArray⟩ (ET.mk 0 0 0 ⟨#[]⟩ none 0 []) none 0 [] none 0 []), rfl, ?_, simple_ts _ (by decide) _ _ (noX_tw _ _), hR.but hbE hBw, hbt.fresh hbE (Nat.le_refl _)⟩
    unfold ST.st
    rfl
  rw [if_neg c1] at hD
  by_cases c2 : (hdT l).text = [97, 115, 115, 101, 114, 116]
  · rw [if_pos c2] at hD
    go_enter Tryz.func164, Tryz.ntmps164
    go_wp2_with (first
      | ((with_reducible show wpList _ _ _ _ _ _); refine wpList_alloc_at rfl 51 rfl (ST.cells (.mk 0 ⟨#[]⟩ (ET.mk 0 0 0 ⟨#[]⟩ none 0 []) none 0 [] none 0 [])) 9 z51 ?_; intro w1 hA1 hb1 hs1; clear hs1; refine Hid.out ?_))
    refine hidU ?_
    have l01 := hA1.lt
    have hR := HR.out.below hb1
    have hbt : But g w w1 := But.of_below hb1
    clear hb1 HR
    have C := takes_no g l ⟨#[108, 111, 99, 107]⟩ (by decide) c0 w1 hR
    clear hR c0
    go_wp2_with (go_at_call 55; refine C.mono ?_; rintro r w2 ⟨rfl, hR, hb⟩; refine Hid.out ?_)
    refine hidU ?_
    have hA1 := hb.at hA1 (by omega)
    have hbt := hbt.trans hb
    have l2 := hb.size
    clear C hb
    have C := takes_no g l ⟨#[117, 110, 108, 111, 99, 107]⟩ (by decide) c1 w2 hR
    clear hR c1
    go_wp2_with (go_at_call 55; refine C.mono ?_; rintro r w3 ⟨rfl, hR, hb⟩; refine Hid.out ?_)
    refine hidU ?_
    have hA1 := hb.at hA1 (by omega)
    have hbt := hbt.trans hb
    have l3 := hb.size
    clear C hb
    have C := takes_yes g l ⟨#[97, 115, 115, 101, 114, 116]⟩ (by decide) c2 w3 hR
    clear hR c2
    go_wp2_with (go_at_call 55; refine C.mono ?_; rintro r w4 ⟨rfl, hR, hb⟩; refine Hid.out ?_)
    refine hidU ?_
    have hA1 := hb.at hA1 (by omega)
    have hbt := hbt.trans hb
    have l4 := hb.size
    clear C hb
    have C := expr38_any g l.tail w4 hR (by omega)
    clear hR
    generalize exprR l.tail = N at C hD
    cases N with
    | bad e p =>
      have hD' : D = .bad e p := hD.out
      subst hD'
      go_wp2_with (go_at_call 38; refine C.mono ?_; rintro r wN ⟨hr, hb⟩; unfold PanW at hr; subst hr)
      exact ⟨rfl, rfl, hbt.trans hb⟩
    | ok x r1 =>
    have hD' : D = .ok (.mk 4 [] x [] []) r1 := hD.out
    subst hD'
    go_wp2_with (go_at_call 38; refine C.mono ?_; rintro r wN ⟨y, rfl, hye, hyt, hR, hb⟩; refine Hid.out ?_)
    refine hidU ?_
    have hA1 := hb.at hA1 (by omega)
    have hbt := hbt.trans hb
    have lN := hb.size
    clear C hb
    go_wp2_with (first
      | ((with_reducible show wpList _ _ _ _ _ _); refine wpList_build_at rfl 51 _ rfl (ST.cells (ST.mk 4 ⟨#[]⟩ y none 0 [] none 0 [])) (by cases y; kernel_rfl) ?_)
      | ((with_reducible show wpList _ _ _ _ _ _); refine wpList_store_at (P := Tryz.prog) rfl 51 (.tmp 2) (.tmp 21) rfl w.heap.size (ST.cells (ST.mk 4 ⟨#[]⟩ y none 0 [] none 0 [])) rfl rfl 51 _ hA1 (i51 _) (len51 _ _) (ST.one _) ?_; intro wE hAE hbE hsE; clear hsE))
    refine bodyPost_ret (results_at rfl _ _ w.heap.size 51 (ST.cells (ST.mk 4 ⟨#[]⟩ y none 0 [] none 0 [])) _ rfl hAE Tryz.underlying51 rfl (i51 _)) rfl ?_
    refine ⟨(ST.mk 4 ⟨#[]⟩ y none 0 [] none 0 []), rfl, ?_, simple_ts _ (by decide) _ _ ((hyt.but hbE (.inl (by omega))).low (by omega)), hR.but hbE hBw, hbt.fresh hbE (Nat.le_refl _)⟩
    unfold ST.st
    rw [hye]
    rfl
  rw [if_neg c2] at hD
  by_cases c3 : (hdT l).text = [115, 107, 105, 112]
  · rw [if_pos c3] at hD
    go_enter Tryz.func164, Tryz.ntmps164
    go_wp2_with (first
      | ((with_reducible show wpList _ _ _ _ _ _); refine wpList_alloc_at rfl 51 rfl (ST.cells (.mk 0 ⟨#[]⟩ (ET.mk 0 0 0 ⟨#[]⟩ none 0 []) none 0 [] none 0 [])) 9 z51 ?_; intro w1 hA1 hb1 hs1; clear hs1; refine Hid.out ?_))
    refine hidU ?_
    have l01 := hA1.lt
    have hR := HR.out.below hb1
    have hbt : But g w w1 := But.of_below hb1
    clear hb1 HR
    have C := takes_no g l ⟨#[108, 111, 99, 107]⟩ (by decide) c0 w1 hR
    clear hR c0
    go_wp2_with (go_at_call 55; refine C.mono ?_; rintro r w2 ⟨rfl, hR, hb⟩; refine Hid.out ?_)
    refine hidU ?_
    have hA1 := hb.at hA1 (by omega)
    have hbt := hbt.trans hb
    have l2 := hb.size
    clear C hb
    have C := takes_no g l ⟨#[117, 110, 108, 111, 99, 107]⟩ (by decide) c1 w2 hR
    clear hR c1
    go_wp2_with (go_at_call 55; refine C.mono ?_; rintro r w3 ⟨rfl, hR, hb⟩; refine Hid.out ?_)
    refine hidU ?_
    have hA1 := hb.at hA1 (by omega)
    have hbt := hbt.trans hb
    have l3 := hb.size
    clear C hb
    have C := takes_no g l ⟨#[97, 115, 115, 101, 114, 116]⟩ (by decide) c2 w3 hR
    clear hR c2
    go_wp2_with (go_at_call 55; refine C.mono ?_; rintro r w4 ⟨rfl, hR, hb⟩; refine Hid.out ?_)
    refine hidU ?_
    have hA1 := hb.at hA1 (by omega)
    have hbt := hbt.trans hb
    have l4 := hb.size
    clear C hb
    have C := takes_yes g l ⟨#[115, 107, 105, 112]⟩ (by decide) c3 w4 hR
    clear hR c3
    go_wp2_with (go_at_call 55; refine C.mono ?_; rintro r w5 ⟨rfl, hR, hb⟩; refine Hid.out ?_)
    refine hidU ?_
    have hA1 := hb.at hA1 (by omega)
    have hbt := hbt.trans hb
    have l5 := hb.size
    clear C hb
    have hD' : D = .ok (.mk 7 [] noE [] []) l.tail := hD.out
    subst hD'
    go_wp2_with (first
      | ((with_reducible show wpList _ _ _ _ _ _); refine wpList_build_at rfl 51 _ rfl (ST.cells (ST.mk 7 ⟨#[]⟩ (ET.mk 0 0 0 ⟨#[]⟩ none 0 []) none 0 [] none 0 [])) (by kernel_rfl) ?_)
      | ((with_reducible show wpList _ _ _ _ _ _); refine wpList_store_at (P := Tryz.prog) rfl 51 (.tmp 2) (.tmp 25) rfl w.heap.size (ST.cells (ST.mk 7 ⟨#[]⟩ (ET.mk 0 0 0 ⟨#[]⟩ none 0 []) none 0 [] none 0 [])) rfl rfl 51 _ hA1 (i51 _) (len51 _ _) (ST.one _) ?_; intro wE hAE hbE hsE; clear hsE))
    refine bodyPost_ret (results_at rfl _ _ w.heap.size 51 (ST.cells (ST.mk 7 ⟨#[]⟩ (ET.mk 0 0 0 ⟨#[]⟩ none 0 []) none 0 [] none 0 [])) _ rfl hAE Tryz.underlying51 rfl (i51 _)) rfl ?_
    refine ⟨(ST.mk 7 ⟨#[]⟩ (ET.mk 0 0 0 ⟨#[]⟩ none 0 []) none 0 [] none 0 []), rfl, ?_, simple_ts _ (by decide) _ _ (noX_tw _ _), hR.but hbE hBw, hbt.fresh hbE (Nat.le_refl _)⟩
    unfold ST.st
    rfl
  rw [if_neg c3] at hD
  go_enter Tryz.func164, Tryz.ntmps164
  go_wp2_with (first
    | ((with_reducible show wpList _ _ _ _ _ _); refine wpList_alloc_at rfl 51 rfl (ST.cells (.mk 0 ⟨#[]⟩ (ET.mk 0 0 0 ⟨#[]⟩ none 0 []) none 0 [] none 0 [])) 9 z51 ?_; intro w1 hA1 hb1 hs1; clear hs1; refine Hid.out ?_))
  refine hidU ?_
  have l01 := hA1.lt
  have hR := HR.out.below hb1
  have hbt : But g w w1 := But.of_below hb1
  clear hb1 HR
  have C := takes_no g l ⟨#[108, 111, 99, 107]⟩ (by decide) c0 w1 hR
  clear hR c0
  go_wp2_with (go_at_call 55; refine C.mono ?_; rintro r w2 ⟨rfl, hR, hb⟩; refine Hid.out ?_)
  refine hidU ?_
  have hA1 := hb.at hA1 (by omega)
  have hbt := hbt.trans hb
  have l2 := hb.size
  clear C hb
  have C := takes_no g l ⟨#[117, 110, 108, 111, 99, 107]⟩ (by decide) c1 w2 hR
  clear hR c1
  go_wp2_with (go_at_call 55; refine C.mono ?_; rintro r w3 ⟨rfl, hR, hb⟩; refine Hid.out ?_)
  refine hidU ?_
  have hA1 := hb.at hA1 (by omega)
  have hbt := hbt.trans hb
  have l3 := hb.size
  clear C hb
  have C := takes_no g l ⟨#[97, 115, 115, 101, 114, 116]⟩ (by decide) c2 w3 hR
  clear hR c2
  go_wp2_with (go_at_call 55; refine C.mono ?_; rintro r w4 ⟨rfl, hR, hb⟩; refine Hid.out ?_)
  refine hidU ?_
  have hA1 := hb.at hA1 (by omega)
  have hbt := hbt.trans hb
  have l4 := hb.size
  clear C hb
  have C := takes_no g l ⟨#[115, 107, 105, 112]⟩ (by decide) c3 w4 hR
  clear hR c3
  go_wp2_with (go_at_call 55; refine C.mono ?_; rintro r w5 ⟨rfl, hR, hb⟩; refine Hid.out ?_)
  refine hidU ?_
  have hA1 := hb.at hA1 (by omega)
  have hbt := hbt.trans hb
  have l5 := hb.size
  clear C hb
  have C := readName_any g l w5 hR
  clear hR
  generalize nameR l = N at C hD
  cases N with
  | bad e p =>
    have hD' : D = .bad e p := hD.out
    subst hD'
    go_wp2_with (go_at_call 57; refine C.mono ?_; rintro r wN ⟨hr, hb⟩; unfold PanW at hr; subst hr)
    exact ⟨rfl, rfl, hbt.trans hb⟩
  | ok x r1 =>
  have hD1 : Hid (D = (mustR [61] r1).bind fun _ r => (exprR r).bind fun e r => .ok (.mk 1 x e [] []) r) := hD
  go_wp2_with (go_at_call 57; refine C.mono ?_; rintro r wN ⟨rfl, hR, hb⟩; refine Hid.out ?_)
  refine hidU ?_
  have hA1 := hb.at hA1 (by omega)
  have hbt := hbt.trans hb
  have l6 := hb.size
  clear C hb hD
  have C := must_any g r1 ⟨#[61]⟩ (by decide) wN hR
  have eb : bytes ⟨#[61]⟩ = [61] := rfl
  rw [eb] at C
  clear hR eb
  generalize mustR [61] r1 = N at C hD1
  cases N with
  | bad e p =>
    have hD' : D = .bad e p := hD1.out
    subst hD'
    go_wp2_with (go_at_call 58; refine C.mono ?_; rintro r wM ⟨hr, hb⟩; unfold PanW at hr; subst hr)
    exact ⟨rfl, rfl, hbt.trans hb⟩
  | ok u r2 =>
  have hD2 : Hid (D = (exprR r2).bind fun e r => .ok (.mk 1 x e [] []) r) := hD1
  go_wp2_with (go_at_call 58; refine C.mono ?_; rintro r wM ⟨rfl, hR, hb⟩; refine Hid.out ?_)
  refine hidU ?_
  have hA1 := hb.at hA1 (by omega)
  have hbt := hbt.trans hb
  have l7 := hb.size
  clear C hb hD1
  have C := expr38_any g r2 wM hR (by omega)
  clear hR
  generalize exprR r2 = N at C hD2
  cases N with
  | bad e p =>
    have hD' : D = .bad e p := hD2.out
    subst hD'
    go_wp2_with (go_at_call 38; refine C.mono ?_; rintro r wX ⟨hr, hb⟩; unfold PanW at hr; subst hr)
    exact ⟨rfl, rfl, hbt.trans hb⟩
  | ok e r3 =>
  have hD' : D = .ok (.mk 1 x e [] []) r3 := hD2.out
  subst hD'
  go_wp2_with (go_at_call 38; refine C.mono ?_; rintro r wX ⟨y, rfl, hye, hyt, hR, hb⟩; refine Hid.out ?_)
  refine hidU ?_
  have hA1 := hb.at hA1 (by omega)
  have hbt := hbt.trans hb
  have l8 := hb.size
  clear C hb
  go_wp2_with (first
    | ((with_reducible show wpList _ _ _ _ _ _); refine wpList_build_at rfl 51 _ rfl (ST.cells (ST.mk 1 ⟨x.toArray⟩ y none 0 [] none 0 [])) (by cases y; kernel_rfl) ?_)
    | ((with_reducible show wpList _ _ _ _ _ _); refine wpList_store_at (P := Tryz.prog) rfl 51 (.tmp 2) (.tmp 33) rfl w.heap.size (ST.cells (ST.mk 1 ⟨x.toArray⟩ y none 0 [] none 0 [])) rfl rfl 51 _ hA1 (i51 _) (len51 _ _) (ST.one _) ?_; intro wE hAE hbE hsE; clear hsE))
  refine bodyPost_ret (results_at rfl _ _ w.heap.size 51 (ST.cells (ST.mk 1 ⟨x.toArray⟩ y none 0 [] none 0 [])) _ rfl hAE Tryz.underlying51 rfl (i51 _)) rfl ?_
  refine ⟨(ST.mk 1 ⟨x.toArray⟩ y none 0 [] none 0 []), rfl, ?_, simple_ts _ (by decide) _ _ ((hyt.but hbE (.inl (by omega))).low (by omega)), hR.but hbE hBw, hbt.fresh hbE (Nat.le_refl _)⟩
  unfold ST.st
  rw [hye]
  rfl
end Go.Proofs.YtjgggmjjikopeaaGreatDoor

/- Rows that grow by append, of elements that own rows themselves. -/
namespace Go.Proofs.YtjgggmjjikopeaaGreatDoor
open Go.RowKit
set_option linter.unusedVariables false

theorem flat_cells_at {α : Type} (cl : α → List Value) (n : Nat) (hlen : ∀ y, (cl y).length = n) : ∀ (ys : List α) (i : Nat) (y : α), ys[i]? = some y → ∀ j v, (cl y)[j]? = some v → (ys.flatMap cl)[i * n + j]? = some v
  | [], i, y, h => by simp at h
  | x :: r, 0, y, h => by
    simp at h
    subst h
    intro j v hj
    rw [List.flatMap_cons, Nat.zero_mul, Nat.zero_add, List.getElem?_append_left (List.getElem?_eq_some_iff.1 hj).1]
    exact hj
  | x :: r, i + 1, y, h => by
    intro j v hj
    rw [List.flatMap_cons, List.getElem?_append_right (by rw [hlen, Nat.add_mul]; omega), hlen, show (i + 1) * n + j - n = i * n + j by rw [Nat.add_mul]; omega]
    exact flat_cells_at cl n hlen r i y h j v hj
/-- Cells are stored into a known block. -/
theorem At.setCells {t : TypeId} {g : Nat} : ∀ (news : List Value) (o : Nat) (w : World) (cs : List Value), At t w g cs → o + news.length ≤ cs.length → At t (w.setCells g o news) g (cs.take o ++ news ++ cs.drop (o + news.length))
  | [], o, w, cs, h, hl => by
    simp only [World.setCells, List.append_nil, List.length_nil, Nat.add_zero, List.take_append_drop]
    exact h
  | v :: r, o, w, cs, h, hl => by
    have hl' : o + (r.length + 1) ≤ cs.length := hl
    have h2 := At.setCells r (o + 1) (w.setCell ⟨g, o, none⟩ v) (cs.set o v) (h.set o v) (by rw [List.length_set]; omega)
    have e : (cs.set o v).take (o + 1) ++ r ++ (cs.set o v).drop (o + 1 + r.length) = cs.take o ++ (v :: r) ++ cs.drop (o + (v :: r).length) := by
      rw [List.drop_set_of_lt (by omega), List.length_cons, show o + (r.length + 1) = o + 1 + r.length by omega]
      have e1 : (cs.set o v).take (o + 1) = cs.take o ++ [v] := by
        rw [List.take_set, List.set_eq_take_append_cons_drop, if_pos (by rw [List.length_take]; omega)]
        rw [List.take_take, Nat.min_eq_left (by omega)]
        congr 2
        apply List.eq_nil_of_length_eq_zero
        rw [List.length_drop, List.length_take]
        omega
      rw [e1]
      simp
    rw [e] at h2
    exact h2
theorem But.setCells {g : Nat} {a : World} : ∀ (news : List Value) (o : Nat) (w : World), But g a w → But g a (w.setCells g o news)
  | [], o, w, h => h
  | v :: r, o, w, h => But.setCells r (o + 1) _ (h.setCell o v)

theorem At.ne {t t' : TypeId} {w : World} {g g' : Nat} {cs cs' : List Value} (h : At t w g cs) (h' : At t' w g' cs') (ht : t ≠ t') : g ≠ g' := by
  rintro rfl
  unfold At at h h'
  rw [h] at h'
  injection h' with h'
  injection h' with _ e _
  exact ht e
theorem At.belowA {t : TypeId} {w w' : World} {g A : Nat} {cs : List Value} (h : At t w g cs) (hb : Below A w w') (hg : g < A) : At t w' g cs := (hb.block g hg).trans h
theorem own_stay {w w' : World} {A E sz n : Nat} {v : Value} {xs : List Value} (h : w.ownsRow A E sz v n xs) (hk : ∀ k, v.ownBlock = some k → w'.heap[k]? = w.heap[k]?) : w'.ownsRow A E sz v n xs := by
  obtain ⟨h1, h2 | ⟨g, cap, cur, hv, hg, hc, h3⟩⟩ := h
  · exact ⟨h1, .inl h2⟩
  · exact ⟨h1, .inr ⟨g, cap, cur, hv, hg, (hk g (by rw [hv]; rfl)).trans hc, h3⟩⟩
/-- What the elements of a row are. -/
structure Elt (α δ : Type) where
  cl : α → List Value
  n : Nat
  E : TypeId
  hlen : ∀ y, (cl y).length = n
  hone : ∀ y, ∀ v ∈ cl y, v.oneCell' = true
  dat : α → δ
  In : Nat → World → α → Prop
  Lies : (Nat → Prop) → α → Prop
  mono : ∀ {S T : Nat → Prop} {y : α}, Lies S y → (∀ k, S k → T k) → Lies T y
  stay : ∀ {S : Nat → Prop} {B B' : Nat} {w w' : World} {y : α}, In B w y → Lies S y → B ≤ B' → (∀ k, S k → k < B → w'.heap[k]? = w.heap[k]?) → In B' w' y
  lies : ∀ {S T : Nat → Prop} {B : Nat} {w : World} {y : α}, In B w y → Lies S y → (∀ k, S k → k < B → T k) → Lies T y
/-- A row that grows. -/
structure Gr {α δ : Type} (e : Elt α δ) (A : Nat) (w : World) (v : Value) (ys : List α) : Prop where
  own : w.ownsRow A e.E e.n v ys.length (ys.flatMap e.cl)
  ins : ∀ y ∈ ys, e.In w.heap.size w y
  off : ∀ y ∈ ys, e.Lies (fun k => A ≤ k ∧ some k ≠ v.ownBlock) y
  size : A ≤ w.heap.size
section
variable {α δ : Type} {e : Elt α δ} {A : Nat} {w w' : World} {v : Value} {ys : List α}
theorem Gr.nil (h : A ≤ w.heap.size) : Gr e A w (.slice none 0 0) [] := ⟨World.ownsRow_nil w A e.E e.n, fun _ h => (by cases h), fun _ h => (by cases h), h⟩
theorem Gr.keep (h : Gr e A w v ys) (hs : w.heap.size ≤ w'.heap.size) (hM : ∀ k, A ≤ k → k < w.heap.size → w'.heap[k]? = w.heap[k]?) : Gr e A w' v ys :=
  ⟨own_stay h.own fun k hk => hM k (h.own.lt k hk).1 (h.own.lt k hk).2, fun y hy => e.stay (h.ins y hy) (h.off y hy) hs fun k hk hl => hM k hk.1 hl, h.off, Nat.le_trans h.size hs⟩
theorem Gr.below (h : Gr e A w v ys) (hb : Below w.heap.size w w') : Gr e A w' v ys := h.keep hb.size fun k _ hk => hb.block k hk
theorem Gr.but {g : Nat} (h : Gr e A w v ys) (hb : But g w w') (hg : g < A) : Gr e A w' v ys := h.keep hb.size fun k h1 hk => hb.block k hk (by omega)
/-- What is made later lies off the row. -/
theorem Gr.fresh (h : Gr e A w v ys) {y : α} (hy : e.Lies (fun k => w.heap.size ≤ k) y) : e.Lies (fun k => A ≤ k ∧ some k ≠ v.ownBlock) y :=
  e.mono hy fun k hk => ⟨Nat.le_trans h.size hk, fun q => by have := (h.own.lt k q.symm).2; omega⟩
theorem Gr.app {y : α} {g cap : Nat} (h : Gr e A w v ys) (hi : e.In w.heap.size w y) (hy : e.Lies (fun k => A ≤ k ∧ some k ≠ v.ownBlock) y)
    (ho : w'.ownsRow A e.E e.n (.slice (some ⟨g, 0, none⟩) (ys.length + 1) cap) (ys.length + 1) (ys.flatMap e.cl ++ e.cl y)) (hg : w.grownBy w' v.ownBlock) (hw : v.ownBlock = some g ∨ g = w.heap.size) :
    Gr e A w' (.slice (some ⟨g, 0, none⟩) (ys.length + 1) cap) (ys ++ [y]) := by
  have hin : ∀ z : α, e.In w.heap.size w z → e.Lies (fun k => A ≤ k ∧ some k ≠ v.ownBlock) z → e.In w'.heap.size w' z := fun z h1 h2 => e.stay h1 h2 hg.size fun k hk hl => hg.block k hl hk.2
  have hoff : ∀ z : α, e.In w.heap.size w z → e.Lies (fun k => A ≤ k ∧ some k ≠ v.ownBlock) z → e.Lies (fun k => A ≤ k ∧ some k ≠ (Value.slice (some ⟨g, 0, none⟩) (ys.length + 1) cap).ownBlock) z := fun z h1 h2 => by
    refine e.lies h1 h2 fun k hk hl => ⟨hk.1, fun q => ?_⟩
    have e1 : some k = some g := q
    cases e1
    rcases hw with q | q
    · exact hk.2 q.symm
    · omega
  refine ⟨?_, fun z hz => ?_, fun z hz => ?_, Nat.le_trans h.size hg.size⟩
  · rw [List.flatMap_append, List.flatMap_cons, List.flatMap_nil, List.append_nil, List.length_append]
    exact ho
  · rcases List.mem_append.1 hz with q | q
    · exact hin z (h.ins z q) (h.off z q)
    · rw [List.mem_singleton.1 q]; exact hin y hi hy
  · rcases List.mem_append.1 hz with q | q
    · exact hoff z (h.ins z q) (h.off z q)
    · rw [List.mem_singleton.1 q]; exact hoff y hi hy
/-- 'out = append(out, y)'. -/
theorem wpList_grow {ops : Array Oper} {rest : List Oper} {o : Oper} {a : Act} {Q : Exit → Act → World → Prop} (hgd : o.guard = none) (s x : Operand) (T : TypeId) (z : Value) (bytes : Nat) (ho : o.op = .call { callee := .builtin .append, args := #[s, x], argTypes := #[T, T] })
    (ht : Tryz.prog.underlying T = some (.slice e.E)) (hif : (Tryz.prog.info? e.E).map (fun i => (i.zero, i.size, i.bytes)) = some (some z, e.n, bytes)) (hzs : z.cells.size = e.n) (hsz : 0 < e.n)
    (hs : a.eval s = v) (b : Nat) (hx : a.eval x = .slice (some ⟨b, 0, none⟩) 1 1) (h : Gr e A w v ys) (y : α) (hA : At e.E w b (e.cl y)) (hi : e.In w.heap.size w y) (hy : e.Lies (fun k => A ≤ k ∧ some k ≠ v.ownBlock) y)
    (k : Nat) (hk : ys.length = k) (hl : k ≤ 1048576) (hby : bytes ≤ 1024)
    (hK : ∀ g cap w', Gr e A w' (.slice (some ⟨g, 0, none⟩) (k + 1) cap) (ys ++ [y]) → Below A w w' → wpList Tryz.prog ops Q rest (a.put o.dst (.slice (some ⟨g, 0, none⟩) (k + 1) cap)) w') : wpList Tryz.prog ops Q (o :: rest) a w := by
  obtain ⟨i0, hi0, hz0, hz1, hz2⟩ := info_parts hif
  subst hk
  refine wpList_append_lies (P := Tryz.prog) w hgd s x T ho A e.E i0 z e.n bytes ht hi0 hz0 hz1 hz2 hzs hsz v ys.length (ys.flatMap e.cl) hs h.own ⟨b, 0, none⟩ 1 1 (e.cl y) hx (by rw [e.hlen, Nat.one_mul]) (fun j u hj => ?_) (e.hone y) (by decide) (by unfold maxLen; omega) (by have : (ys.length + 1) * bytes ≤ 1048577 * 1024 := Nat.mul_le_mul (by omega) hby; omega) h.size w.heap.size rfl ?_
  · rw [Addr.add_mid, Nat.zero_add, hA.cell]; exact hj
  · intro g cap w' h1 h2 h3 _
    exact hK g cap w' (h.app hi hy h1 h2 h3) ((Below.refl A w).grown h2 h.size fun k hk => (h.own.lt k hk).1)

theorem wp_grow {o : Oper} {a : Act} {K : Act → World → Prop} {Q : Exit → Act → World → Prop} (s x : Operand) (T : TypeId) (z : Value) (bytes : Nat) (ho : o.op = .call { callee := .builtin .append, args := #[s, x], argTypes := #[T, T] })
    (ht : Tryz.prog.underlying T = some (.slice e.E)) (hif : (Tryz.prog.info? e.E).map (fun i => (i.zero, i.size, i.bytes)) = some (some z, e.n, bytes)) (hzs : z.cells.size = e.n) (hsz : 0 < e.n)
    (hs : a.eval s = v) (b : Nat) (hx : a.eval x = .slice (some ⟨b, 0, none⟩) 1 1) (h : Gr e A w v ys) (y : α) (hA : At e.E w b (e.cl y)) (hi : e.In w.heap.size w y) (hy : e.Lies (fun k => A ≤ k ∧ some k ≠ v.ownBlock) y)
    (k : Nat) (hk : ys.length = k) (hl : k ≤ 1048576) (hby : bytes ≤ 1024)
    (hK : ∀ g cap w', Gr e A w' (.slice (some ⟨g, 0, none⟩) (k + 1) cap) (ys ++ [y]) → Below A w w' → K (a.put o.dst (.slice (some ⟨g, 0, none⟩) (k + 1) cap)) w') : o.wp Tryz.prog a w K Q := by
  obtain ⟨i0, hi0, hz0, hz1, hz2⟩ := info_parts hif
  subst hk
  refine wp_append_lies (P := Tryz.prog) w s x T ho A e.E i0 z e.n bytes ht hi0 hz0 hz1 hz2 hzs hsz v ys.length (ys.flatMap e.cl) hs h.own ⟨b, 0, none⟩ 1 1 (e.cl y) hx (by rw [e.hlen, Nat.one_mul]) (fun j u hj => ?_) (e.hone y) (by decide) (by unfold maxLen; omega) (by have : (ys.length + 1) * bytes ≤ 1048577 * 1024 := Nat.mul_le_mul (by omega) hby; omega) h.size w.heap.size rfl ?_
  · rw [Addr.add_mid, Nat.zero_add, hA.cell]; exact hj
  · intro g cap w' h1 h2 h3 _
    exact hK g cap w' (h.app hi hy h1 h2 h3) ((Below.refl A w).grown h2 h.size fun k hk => (h.own.lt k hk).1)
end

def eS : Elt ST St := ⟨ST.cells, 9, 51, ST.cells_len, ST.one, ST.st, fun B w x => x.In B w, fun S x => x.Lies S, fun h k => ST.Lies.mono k h, fun h1 h2 h3 h4 => ST.In.up h3 (ST.In.stay h4 h1 h2), fun h1 h2 h3 => ST.Lies.mono (fun k hk => h3 k hk.1 hk.2) (ST.In.lies h1 h2)⟩
def eV : Elt VT Vr := ⟨VT.cells, 3, 48, fun _ => rfl, VT.one, VT.vr, fun B w x => x.In B w, fun _ _ => True, fun _ _ => trivial, fun h _ _ _ => h, fun _ _ _ => trivial⟩
def eN : Elt ByteArray (List UInt8) := ⟨fun m => [.string m], 1, 9, fun _ => rfl, fun _ v hv => by simp at hv; subst hv; rfl, fun m => m.data.toList, fun _ _ _ => True, fun _ _ => True, fun _ _ => trivial, fun _ _ _ _ => trivial, fun _ _ _ => trivial⟩
theorem f51 : (Tryz.prog.info? 51).map (fun i => (i.zero, i.size, i.bytes)) = some (some ((Tryz.prog.info? 51).bind (·.zero) |>.getD undef), 9, 136) := by kernel_rfl
theorem f48 : (Tryz.prog.info? 48).map (fun i => (i.zero, i.size, i.bytes)) = some (some ((Tryz.prog.info? 48).bind (·.zero) |>.getD undef), 3, 32) := by kernel_rfl
theorem f9 : (Tryz.prog.info? 9).map (fun i => (i.zero, i.size, i.bytes)) = some (some ((Tryz.prog.info? 9).bind (·.zero) |>.getD undef), 1, 16) := by kernel_rfl
theorem f53 : (Tryz.prog.info? 53).map (fun i => (i.zero, i.size, i.bytes)) = some (some ((Tryz.prog.info? 53).bind (·.zero) |>.getD undef), 3, 64) := by kernel_rfl
theorem wp_layS {o : Oper} {a : Act} {w : World} {K : Act → World → Prop} {Q : Exit → Act → World → Prop} (x : Operand) (ho : o.op = .buildSlice 49 1 #[(0, x)]) (ycs : List Value) (hx : a.eval x = .agg ycs.toArray) (hyn : ycs.length = 9)
    (h : ∀ w', At 51 w' w.heap.size ycs → Below w.heap.size w w' → K (a.put o.dst (.slice (some ⟨w.heap.size, 0, none⟩) 1 1)) w') : o.wp Tryz.prog a w K Q := by
  obtain ⟨ie, hi, hz0, hz1, hz2⟩ := info_parts f51
  refine wp_buildSlice 49 51 1 #[(0, x)] ho ycs.toArray ie _ Tryz.underlying49 hi hz0 (by rw [hz1]; decide) (by rw [hz1]; decide) ?_ ?_
  · rw [hz1]
    simp only [List.map_toArray, List.map_cons, List.map_nil, hx]
    match ycs, hyn with
    | [a0, a1, a2, a3, a4, a5, a6, a7, a8], _ => (show _ = _); kernel_rfl
  · exact h _ (_root_.Go.heap_alloc_new w _) ((Below.refl _ w).alloc (Nat.le_refl _) _)
theorem wpList_layS {ops : Array Oper} {rest : List Oper} {o : Oper} {a : Act} {w : World} {Q : Exit → Act → World → Prop} (hgd : o.guard = none) (x : Operand) (ho : o.op = .buildSlice 49 1 #[(0, x)]) (ycs : List Value) (hx : a.eval x = .agg ycs.toArray) (hyn : ycs.length = 9)
    (h : ∀ w', At 51 w' w.heap.size ycs → Below w.heap.size w w' → wpList Tryz.prog ops Q rest (a.put o.dst (.slice (some ⟨w.heap.size, 0, none⟩) 1 1)) w') : wpList Tryz.prog ops Q (o :: rest) a w :=
  wpList_plain hgd fun _ hK => wp_layS x ho ycs hx hyn fun w' h1 h2 => hK _ _ (h w' h1 h2)
theorem wp_layV {o : Oper} {a : Act} {w : World} {K : Act → World → Prop} {Q : Exit → Act → World → Prop} (x : Operand) (ho : o.op = .buildSlice 22 1 #[(0, x)]) (ycs : List Value) (hx : a.eval x = .agg ycs.toArray) (hyn : ycs.length = 3)
    (h : ∀ w', At 48 w' w.heap.size ycs → Below w.heap.size w w' → K (a.put o.dst (.slice (some ⟨w.heap.size, 0, none⟩) 1 1)) w') : o.wp Tryz.prog a w K Q := by
  obtain ⟨ie, hi, hz0, hz1, hz2⟩ := info_parts f48
  refine wp_buildSlice 22 48 1 #[(0, x)] ho ycs.toArray ie _ Tryz.underlying22 hi hz0 (by rw [hz1]; decide) (by rw [hz1]; decide) ?_ ?_
  · rw [hz1]
    simp only [List.map_toArray, List.map_cons, List.map_nil, hx]
    match ycs, hyn with
    | [a0, a1, a2], _ => (show _ = _); kernel_rfl
  · exact h _ (_root_.Go.heap_alloc_new w _) ((Below.refl _ w).alloc (Nat.le_refl _) _)
theorem wpList_layV {ops : Array Oper} {rest : List Oper} {o : Oper} {a : Act} {w : World} {Q : Exit → Act → World → Prop} (hgd : o.guard = none) (x : Operand) (ho : o.op = .buildSlice 22 1 #[(0, x)]) (ycs : List Value) (hx : a.eval x = .agg ycs.toArray) (hyn : ycs.length = 3)
    (h : ∀ w', At 48 w' w.heap.size ycs → Below w.heap.size w w' → wpList Tryz.prog ops Q rest (a.put o.dst (.slice (some ⟨w.heap.size, 0, none⟩) 1 1)) w') : wpList Tryz.prog ops Q (o :: rest) a w :=
  wpList_plain hgd fun _ hK => wp_layV x ho ycs hx hyn fun w' h1 h2 => hK _ _ (h w' h1 h2)
theorem wp_layT {o : Oper} {a : Act} {w : World} {K : Act → World → Prop} {Q : Exit → Act → World → Prop} (x : Operand) (ho : o.op = .buildSlice 24 1 #[(0, x)]) (ycs : List Value) (hx : a.eval x = .agg ycs.toArray) (hyn : ycs.length = 3)
    (h : ∀ w', At 53 w' w.heap.size ycs → Below w.heap.size w w' → K (a.put o.dst (.slice (some ⟨w.heap.size, 0, none⟩) 1 1)) w') : o.wp Tryz.prog a w K Q := by
  obtain ⟨ie, hi, hz0, hz1, hz2⟩ := info_parts f53
  refine wp_buildSlice 24 53 1 #[(0, x)] ho ycs.toArray ie _ Tryz.underlying24 hi hz0 (by rw [hz1]; decide) (by rw [hz1]; decide) ?_ ?_
  · rw [hz1]
    simp only [List.map_toArray, List.map_cons, List.map_nil, hx]
    match ycs, hyn with
    | [a0, a1, a2], _ => (show _ = _); kernel_rfl
  · exact h _ (_root_.Go.heap_alloc_new w _) ((Below.refl _ w).alloc (Nat.le_refl _) _)
theorem wpList_layT {ops : Array Oper} {rest : List Oper} {o : Oper} {a : Act} {w : World} {Q : Exit → Act → World → Prop} (hgd : o.guard = none) (x : Operand) (ho : o.op = .buildSlice 24 1 #[(0, x)]) (ycs : List Value) (hx : a.eval x = .agg ycs.toArray) (hyn : ycs.length = 3)
    (h : ∀ w', At 53 w' w.heap.size ycs → Below w.heap.size w w' → wpList Tryz.prog ops Q rest (a.put o.dst (.slice (some ⟨w.heap.size, 0, none⟩) 1 1)) w') : wpList Tryz.prog ops Q (o :: rest) a w :=
  wpList_plain hgd fun _ hK => wp_layT x ho ycs hx hyn fun w' h1 h2 => hK _ _ (h w' h1 h2)
theorem wp_layN {o : Oper} {a : Act} {w : World} {K : Act → World → Prop} {Q : Exit → Act → World → Prop} (x : Operand) (ho : o.op = .buildSlice 23 1 #[(0, x)]) (m : ByteArray) (hx : a.eval x = .string m)
    (h : ∀ w', At 9 w' w.heap.size [.string m] → Below w.heap.size w w' → K (a.put o.dst (.slice (some ⟨w.heap.size, 0, none⟩) 1 1)) w') : o.wp Tryz.prog a w K Q := by
  obtain ⟨ie, hi, hz0, hz1, hz2⟩ := info_parts f9
  refine wp_buildSlice 23 9 1 #[(0, x)] ho [.string m].toArray ie _ Tryz.underlying23 hi hz0 (by rw [hz1]; decide) (by rw [hz1]; decide) ?_ ?_
  · rw [hz1]
    simp only [List.map_toArray, List.map_cons, List.map_nil, hx]
    kernel_rfl
  · exact h _ (_root_.Go.heap_alloc_new w _) ((Below.refl _ w).alloc (Nat.le_refl _) _)
/-- What the cells of a row that grew are. -/
theorem Gr.cell {α δ : Type} {e : Elt α δ} {A : Nat} {w : World} {a : Option Addr} {n c : Nat} {ys : List α} (h : Gr e A w (.slice a n c) ys) : ys.length ≤ c ∧ (ys = [] ∨ ∃ g, a = some ⟨g, 0, none⟩ ∧ A ≤ g ∧ g < w.heap.size ∧ w.rangeAt g 0 (ys.flatMap e.cl)) := by
  obtain ⟨h1, ⟨h2, h3⟩ | ⟨g, cap, cur, hv, hg, hc, hn, h3⟩⟩ := id h.own
  · have e0 : ys = [] := List.length_eq_zero_iff.mp h3
    subst e0
    exact ⟨Nat.zero_le _, .inl rfl⟩
  · have hlt : g < w.heap.size := (h.own.lt g (by rw [hv]; rfl)).2
    have hv' := hv
    injection hv with e1 e2 e3
    subst e1 e3
    refine ⟨hn, .inr ⟨g, rfl, hg, hlt, fun j u hj => ?_⟩⟩
    have z := h.own.cells (g := g) rfl j u hj
    rw [Addr.add_mid] at z
    exact z
/-- A row of statements that grew. -/
theorem Gr.stmts {A : Nat} {w : World} {a : Option Addr} {n c : Nat} {ys : List ST} (h : Gr eS A w (.slice a n c) ys) (hl : ys.length ≤ 1048576) : Tl A w a c ys := by
  obtain ⟨h1, h2⟩ := h.cell
  have hL : ST.LiesL (fun k => A ≤ k) ys := ST.LiesL.of fun y hy => (h.off y hy : y.Lies _).mono fun k hk => hk.1
  rcases h2 with rfl | ⟨g, rfl, hg, hlt, hr⟩
  · exact ⟨⟨by simp, Nat.zero_le _, .inl rfl⟩, .inl rfl, hL⟩
  · exact ⟨⟨hl, h1, .inr ⟨g, 0, rfl, hlt, row_of_flatS ys 0 hr h.ins⟩⟩, .inr ⟨g, 0, rfl, hg⟩, hL⟩
end Go.Proofs.YtjgggmjjikopeaaGreatDoor
