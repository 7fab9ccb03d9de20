/- Joined texts of the proof. -/
import Derived.Test.YtjgggmjjikopeaaGreatDoorJ22

/- A literal or a name. -/
namespace Go.Proofs.YtjgggmjjikopeaaGreatDoor
open Go.RowKit
set_option linter.unusedVariables false

/-- An expression in blocks from one on. -/
def Tw (A : Nat) (w : World) (y : ET) : Prop := y.Sn w.heap.size w ∧ y.Lies (fun k => A ≤ k)
theorem Tw.but {A k : Nat} {w w' : World} {y : ET} (h : Tw A w y) (hb : But k w w') (hk : k < A ∨ w.heap.size ≤ k) : Tw A w' y :=
  ⟨ET.Sn.up hb.size (ET.Sn.stay (fun j hj hl => hb.block j hl (by omega)) h.1 h.2), h.2⟩
theorem Tw.below {A : Nat} {w w' : World} {y : ET} (h : Tw A w y) (hb : Below w.heap.size w w') : Tw A w' y :=
  ⟨ET.Sn.up hb.size (ET.Sn.stay (fun j hj hl => hb.block j hl) h.1 h.2), h.2⟩
theorem Tw.low {A A' : Nat} {w : World} {y : ET} (h : Tw A w y) (hA : A' ≤ A) : Tw A' w y := ⟨h.1, h.2.mono fun k hk => Nat.le_trans hA hk⟩
/-- What a part that reads an expression tells. -/
def PostX (B g : Nat) (w : World) (R : Rs Ex) (r : Ending) (w' : World) : Prop :=
  match R with
  | .ok e l => ∃ y : ET, r = .returned (.agg y.cells.toArray) ∧ y.ex = e ∧ Tw w.heap.size w' y ∧ Rd B w' g l ∧ But g w w'
  | .bad e p => r = PanW e p ∧ But g w w'

theorem lit_ne {t : Tk} (h : (litTk t).isSome = true) : t.text ≠ [] ∨ t.kind ≠ 0 := by
  by_cases hk : t.kind = 0
  · left
    intro ht
    unfold litTk at h
    rw [ht, hk] at h
    simp at h
  · exact .inr hk
theorem lit_lt {t : Tk} (hb : t.bits < 18446744073709551616) : (litV t).1 < 256 ∧ (litV t).2 < 18446744073709551616 := by
  have hv : valT t.kind < 256 := by unfold valT; split <;> (try split) <;> decide
  have go : ∀ (c : Prop) [Decidable c] (a b : Option (Nat × Nat)) (d : Nat × Nat), (a.getD d).1 < 256 ∧ (a.getD d).2 < 18446744073709551616 → (b.getD d).1 < 256 ∧ (b.getD d).2 < 18446744073709551616 → ((if c then a else b).getD d).1 < 256 ∧ ((if c then a else b).getD d).2 < 18446744073709551616 := fun c _ a b d h1 h2 => by
    by_cases h : c
    · rw [if_pos h]; exact h1
    · rw [if_neg h]; exact h2
  unfold litV litTk
  refine go _ _ _ _ ⟨?_, ?_⟩ (go _ _ _ _ ⟨?_, ?_⟩ (go _ _ _ _ ⟨?_, ?_⟩ (go _ _ _ _ ⟨?_, ?_⟩ (go _ _ _ _ ⟨hv, hb⟩ ⟨hv, hb⟩))))
  all_goals exact of_decide_eq_true rfl
theorem vl_cells {w : World} {g : Nat} {vt vb : Nat} (h : At 40 w g (val2 vt vb)) : w.cell? ⟨g, 0, none⟩ = some (.int .u8 (vt : Int)) ∧ w.cell? ⟨g, 1, none⟩ = some (.int .u64 (vb : Int)) := by
  refine ⟨?_, ?_⟩ <;> (rw [h.cell]; rfl)
/-- What is laid behind the blocks that were there changes nothing of these. -/
theorem but_fresh {g : Nat} {w w5 w6 w9 : World} (h5 : Below w.heap.size w w5) (h6 : But g w5 w6) (h9 : But w.heap.size w6 w9) : But g w w9 :=
  ⟨(h9.os.trans h6.os).trans h5.os, (h9.tape.trans h6.tape).trans h5.tape, (h9.output.trans h6.output).trans h5.output, Nat.le_trans h5.size (Nat.le_trans h6.size h9.size), fun k hk hn => by
    rw [h9.block k (Nat.lt_of_lt_of_le hk (Nat.le_trans h5.size h6.size)) (by omega), h6.block k (Nat.lt_of_lt_of_le hk h5.size) hn, h5.block k hk]⟩
/-- What is laid behind the blocks that were there changes nothing of these. -/
theorem But.fresh {g b : Nat} {w w5 w6 : World} (h : But g w w5) (h2 : But b w5 w6) (hb : w.heap.size ≤ b) : But g w w6 :=
  ⟨h2.os.trans h.os, h2.tape.trans h.tape, h2.output.trans h.output, Nat.le_trans h.size h2.size, fun k hk hn => by rw [h2.block k (Nat.lt_of_lt_of_le hk h.size) (by omega), h.block k hk hn]⟩
theorem leaf_tr (A : Nat) (w : World) (op t b : Nat) (nm : ByteArray) (h1 : op < 256) (h2 : t < 256) (h3 : b < 18446744073709551616) : Tw A w (.mk op t b nm none 0 []) := by
  refine ⟨⟨?_, ?_⟩, ?_⟩
  · unfold ET.In
    exact ⟨h1, h2, h3, by simp, by simp, .inl rfl⟩
  · unfold ET.Lies
    exact ⟨.inl rfl, trivial⟩
  · unfold ET.Lies
    exact ⟨.inl rfl, trivial⟩

set_option maxRecDepth 100000 in
set_option maxHeartbeats 6400000 in
theorem leaf_any {B : Nat} (g : Nat) (l : List Tk) (w : World) (h : Rd B w g l) (hBw : B ≤ w.heap.size) :
    Calls Tryz.prog 140 #[.pointer (some ⟨g, 0, none⟩)] w fun r w' => PostX B g w (leafR l) r w' := by
  have hlt := h.lt
  have HN : Hid (∀ u, Below w.heap.size w u → Calls Tryz.prog 92 #[.pointer (some ⟨g, 0, none⟩)] u fun r w' => r = .returned (.agg (hdT l).cells.toArray) ∧ Below u.heap.size u w') := fun u hu => next_any g l u (h.below hu)
  have HL : Hid (∀ u, Calls Tryz.prog 126 #[.agg (hdT l).cells.toArray] u fun r w' => r = .returned (.tuple #[.agg #[.int .u8 ((litV (hdT l)).1 : Int), .int .u64 ((litV (hdT l)).2 : Int)], .bool (litTk (hdT l)).isSome]) ∧ Below u.heap.size u w') := fun u => literal_any (hdT l) u
  have hbit : (hdT l).bits < 18446744073709551616 := by
    obtain ⟨_, _, _, h, _⟩ := h
    refine h.bits _ ?_
    rw [h.ends.cons]
    exact List.mem_cons_self
  have hlv := lit_lt hbit
  cases hc : litTk (hdT l)
  focus
    have hm : leafR l = match nameR l with | .ok x r => .ok (.mk 2 0 0 x []) r | .bad e p => .bad e p := by
      unfold leafR nameR
      rw [hc]
      dsimp only
      split <;> rfl
    rw [hm]
    have HM : Hid (∀ u, Below w.heap.size w u → Calls Tryz.prog 57 #[.pointer (some ⟨g, 0, none⟩)] u fun r w' => PostN B g u (nameR l) r w') := fun u hu => readName_any g l u (h.below hu)
    rw [hc] at HL
    clear hm h hc hbit
    generalize litV (hdT l) = v at HL
  rotate_left
  focus
    rename_i v
    have hle : leafR l = .ok (.mk 1 v.1 v.2 [] []) l.tail := by unfold leafR; rw [hc]
    have hv : litV (hdT l) = v := by unfold litV; rw [hc]; rfl
    have hn := lit_ne (t := hdT l) (by rw [hc]; rfl)
    rw [hle]
    rw [hv, hc] at HL
    rw [hv] at hlv
    have HT : Hid (∀ u, Below w.heap.size w u → Calls Tryz.prog 93 #[.pointer (some ⟨g, 0, none⟩)] u fun r w' => r = .returned (.tuple #[]) ∧ Rd B w' g l.tail ∧ But g u w') := fun u hu => take_any g l u (h.below hu) hn
    clear hle hv hn h hc hbit
  rotate_left
  all_goals
    obtain ⟨vt, vb⟩ := v
    generalize hdT l = t at HN HL
    obtain ⟨K, T, p, b⟩ := t
    have HN : Hid (∀ u, Below w.heap.size w u → Calls Tryz.prog 92 #[.pointer (some ⟨g, 0, none⟩)] u fun r w' => r = .returned (.agg #[.int .i64 (K : Int), .string ⟨T.toArray⟩, .int .i64 (p : Int), .int .u8 (valT K : Nat), .int .u64 (b : Nat)]) ∧ Below u.heap.size u w') := HN
  · have HL : Hid (∀ u, Calls Tryz.prog 126 #[.agg #[.int .i64 (K : Int), .string ⟨T.toArray⟩, .int .i64 (p : Int), .int .u8 (valT K : Nat), .int .u64 (b : Nat)]] u fun r w' => r = .returned (.tuple #[.agg #[.int .u8 (vt : Int), .int .u64 (vb : Int)], .bool false]) ∧ Below u.heap.size u w') := HL
    cases hnm : nameR l
    focus
      rename_i x l'
    rotate_left
    focus
      rename_i e q
    rotate_left
    all_goals
      rw [hnm] at HM
      go_enter Tryz.func140, Tryz.ntmps140
      go_wp2_with (first
        | ((with_reducible show wpList _ _ _ _ _ _); refine wpList_alloc_at rfl 43 rfl [.int .u8 0, .int .u8 0, .int .u64 0, .string ⟨#[]⟩, .slice none 0 0] 5 z29 ?_; intro w1 hA1 hb1 hs1; clear hs1)
        | (go_at_call 92; refine (HN.out _ hb1).mono ?_; rintro r w2 ⟨rfl, hb2⟩)
        | (go_at_call 126; refine (HL.out _).mono ?_; rintro r w3 ⟨rfl, hb3⟩)
        | ((with_reducible show wpList _ _ _ _ _ _); refine wpList_alloc_at rfl 40 rfl (val2 0 0) 2 z32 ?_; intro w4 hA4 hb4 hs4; clear hs4)
        | ((with_reducible show wpList _ _ _ _ _ _); refine wpList_store_at (P := Tryz.prog) rfl 40 (.tmp 3) (.tmp 9) rfl w3.heap.size (val2 vt vb) rfl rfl 40 _ hA4 i32 rfl (one2 _ _) ?_; intro w5 hA5 hb5 hs5; refine Hid.out ?_))
      refine hidU ?_
      have l13 : w.heap.size < w3.heap.size := by have := hA1.lt; have := hb2.size; have := hb3.size; omega
      have hB4 : Below w.heap.size w w4 := ((hb1.trans (hb2.mono hb1.size)).trans (hb3.mono (Nat.le_trans hb1.size hb2.size))).trans (hb4.mono (by omega))
      have hB5 : Below w.heap.size w w5 := hb5.below hB4 (by omega) hB4.size
      have hA15 := hb5.at (((hA1.below hb2).below hb3).below hb4) (by omega)
      clear hA1 hA4 hb1 hb2 hb3 hb4 hb5 hs5 HN HL hB4
    · go_wp2_with (first
        | (go_at_call 57; refine (HM.out _ hB5).mono ?_; rintro r w6 ⟨rfl, hR, hb6⟩; refine Hid.out ?_))
      refine hidU ?_
      have hA16 := hb6.at hA15 (by omega)
      clear HM hA15 hA5
      go_wp2_with (first
        | ((with_reducible show wpList _ _ _ _ _ _); refine wpList_build_at rfl 43 _ rfl (ET.mk 2 0 0 ⟨x.toArray⟩ none 0 []).cells (by kernel_rfl) ?_)
        | ((with_reducible show wpList _ _ _ _ _ _); refine wpList_store_at (P := Tryz.prog) rfl 43 (.tmp 2) (.tmp 18) rfl w.heap.size (ET.mk 2 0 0 ⟨x.toArray⟩ none 0 []).cells rfl rfl 43 _ hA16 i29 rfl (ET.one _) ?_; intro w9 hA9 hb9 hs9))
      refine bodyPost_ret (results_at rfl _ _ w.heap.size 43 (ET.mk 2 0 0 ⟨x.toArray⟩ none 0 []).cells _ rfl hA9 Tryz.underlying43 rfl i29) rfl ?_
      refine ⟨.mk 2 0 0 ⟨x.toArray⟩ none 0 [], rfl, rfl, leaf_tr _ _ _ _ _ _ (by decide) (by decide) (by decide), hR.but hb9 hBw, ?_⟩
      exact but_fresh hB5 hb6 hb9
    · go_wp2_with (first
        | (go_at_call 57; refine (HM.out _ hB5).mono ?_; rintro r w6 ⟨hr, hb6⟩; unfold PanW at hr; subst hr))
      exact ⟨rfl, rfl, (But.of_below hB5).trans hb6⟩
  · have HL : Hid (∀ u, Calls Tryz.prog 126 #[.agg #[.int .i64 (K : Int), .string ⟨T.toArray⟩, .int .i64 (p : Int), .int .u8 (valT K : Nat), .int .u64 (b : Nat)]] u fun r w' => r = .returned (.tuple #[.agg #[.int .u8 (vt : Int), .int .u64 (vb : Int)], .bool true]) ∧ Below u.heap.size u w') := HL
    go_enter Tryz.func140, Tryz.ntmps140
    go_wp2_with (first
      | ((with_reducible show wpList _ _ _ _ _ _); refine wpList_alloc_at rfl 43 rfl [.int .u8 0, .int .u8 0, .int .u64 0, .string ⟨#[]⟩, .slice none 0 0] 5 z29 ?_; intro w1 hA1 hb1 hs1; clear hs1)
      | (go_at_call 92; refine (HN.out _ hb1).mono ?_; rintro r w2 ⟨rfl, hb2⟩)
      | (go_at_call 126; refine (HL.out _).mono ?_; rintro r w3 ⟨rfl, hb3⟩)
      | ((with_reducible show wpList _ _ _ _ _ _); refine wpList_alloc_at rfl 40 rfl (val2 0 0) 2 z32 ?_; intro w4 hA4 hb4 hs4; clear hs4)
      | ((with_reducible show wpList _ _ _ _ _ _); refine wpList_store_at (P := Tryz.prog) rfl 40 (.tmp 3) (.tmp 9) rfl w3.heap.size (val2 vt vb) rfl rfl 40 _ hA4 i32 rfl (one2 _ _) ?_; intro w5 hA5 hb5 hs5; refine Hid.out ?_))
    refine hidU ?_
    have l13 : w.heap.size < w3.heap.size := by have := hA1.lt; have := hb2.size; have := hb3.size; omega
    have hB4 : Below w.heap.size w w4 := ((hb1.trans (hb2.mono hb1.size)).trans (hb3.mono (Nat.le_trans hb1.size hb2.size))).trans (hb4.mono (by omega))
    have hB5 : Below w.heap.size w w5 := hb5.below hB4 (by omega) hB4.size
    have hA15 := hb5.at (((hA1.below hb2).below hb3).below hb4) (by omega)
    clear hA1 hA4 hb1 hb2 hb3 hb4 hb5 hs5 HN HL hB4
    go_wp2_with (first
      | (go_at_call 93; refine (HT.out _ hB5).mono ?_; rintro r w6 ⟨rfl, hR, hb6⟩; refine Hid.out ?_))
    refine hidU ?_
    have hA56 := hb6.at hA5 (by omega)
    have hA16 := hb6.at hA15 (by omega)
    obtain ⟨c0, c1⟩ := vl_cells hA56
    clear HT hA15 hA5
    go_wp2_with (first
      | ((with_reducible show wpList _ _ _ _ _ _); refine wpList_build_at rfl 43 _ rfl (ET.mk 1 vt vb ⟨#[]⟩ none 0 []).cells (by kernel_rfl) ?_)
      | ((with_reducible show wpList _ _ _ _ _ _); refine wpList_store_at (P := Tryz.prog) rfl 43 (.tmp 2) (.tmp 15) rfl w.heap.size (ET.mk 1 vt vb ⟨#[]⟩ none 0 []).cells rfl rfl 43 _ hA16 i29 rfl (ET.one _) ?_; intro w9 hA9 hb9 hs9))
    refine bodyPost_ret (results_at rfl _ _ w.heap.size 43 (ET.mk 1 vt vb ⟨#[]⟩ none 0 []).cells _ rfl hA9 Tryz.underlying43 rfl i29) rfl ?_
    refine ⟨.mk 1 vt vb ⟨#[]⟩ none 0 [], rfl, rfl, leaf_tr _ _ _ _ _ _ (by decide) hlv.1 hlv.2, hR.but hb9 hBw, ?_⟩
    exact but_fresh hB5 hb6 hb9
end Go.Proofs.YtjgggmjjikopeaaGreatDoor
