/- Joined texts of the proof. -/
import Derived.Test.YtjgggmjjikopeaaGreatDoorJ29

/- An expression, and that nothing stands behind. -/
namespace Go.Proofs.YtjgggmjjikopeaaGreatDoor
open Go.RowKit
set_option linter.unusedVariables false

theorem zeroW : RowW 0 ∧ OperW 0 ∧ BrkW 0 :=
  ⟨fun n d l R _ _ _ h => by simp [rowF] at h, fun d l R _ h => by simp [operF] at h, fun d l R _ h => by simp [brkF] at h⟩
theorem readW (f : Nat) : ∀ k, k ≤ f → RowW k ∧ OperW k ∧ BrkW k := by
  induction f with
  | zero =>
    intro k hk; obtain rfl : k = 0 := by omega
    exact zeroW
  | succ f ih =>
    intro k hk
    by_cases e : k = f + 1
    · subst e
      exact ⟨row_of f (ih f (Nat.le_refl _)).2.1 fun j hj => (ih j (by omega)).1, operand_of f (ih f (Nat.le_refl _)).2.1 (ih f (Nat.le_refl _)).2.2, bracket_of f (ih f (Nat.le_refl _)).1⟩
    · exact ih k (by omega)

/-- An expression. -/
theorem exprX_any (d : Nat) (l : List Tk) (R : Rs Ex) (hd : d ≤ 32) (h : ∃ f, rowF f 1 d l = some R) (B g : Nat) (w : World) (hr : Rd B w g l) (hB : B ≤ w.heap.size) :
    Calls Tryz.prog 38 #[.pointer (some ⟨g, 0, none⟩), .int .i64 (d : Int)] w fun r w' => PostX B g w R r w' := by
  obtain ⟨f, h⟩ := h
  exact expr_of f (readW f f (Nat.le_refl _)).1 d l R hd h B g w hr hB

/-- Nothing may stand behind. -/
def endR (l : List Tk) : Rs Unit := if 1 < l.length then .bad 4 (hdT l).place else .ok () l

set_option maxRecDepth 100000 in
set_option maxHeartbeats 3200000 in
theorem end_any {B : Nat} (g : Nat) (l : List Tk) (w : World) (h : Rd B w g l) :
    Calls Tryz.prog 27 #[.pointer (some ⟨g, 0, none⟩)] w fun r w' => PostU B g w (endR l) r w' := by
  obtain ⟨a, c, hc⟩ : ∃ a c, w.cell? ⟨g, 0, none⟩ = some (.slice a l.length c) := by
    obtain ⟨gt, o, c, h, _⟩ := h
    exact ⟨_, _, h.cell.cell 0⟩
  have hN := refuseNext_any g l w h
  have HR : Hid (Rd B w g l) := h
  have hlg := h.lt
  clear h
  by_cases hl : 1 < l.length
  · have e : endR l = .bad 4 (hdT l).place := by unfold endR; rw [if_pos hl]
    rw [e]
    generalize l.length = n at hc hl
    generalize (hdT l).place = p at hN ⊢
    go_enter Tryz.func27, Tryz.ntmps27
    go_wp2_with (first
      | (go_at_call 60; refine hN.mono ?_; rintro r w3 ⟨hr, hb3⟩; unfold PanW at hr; subst hr))
    exact ⟨rfl, rfl, But.of_below hb3⟩
  · have e : endR l = .ok () l := by unfold endR; rw [if_neg hl]
    rw [e]
    generalize hn : l.length = n at hc hl
    clear hn
    go_enter Tryz.func27, Tryz.ntmps27
    go_wp2
    go_end0
    exact ⟨rfl, HR.out, But.refl _ _⟩

end Go.Proofs.YtjgggmjjikopeaaGreatDoor

/- The reader of a text. -/
namespace Go.Proofs.YtjgggmjjikopeaaGreatDoor
open Go.RowKit
set_option linter.unusedVariables false

/-- What is known of each token. -/
def TkOk (t : Tk) : Prop := t.bits < 18446744073709551616 ∧ (t.kind = 2 ∨ t.kind = 3 → 48 ≤ (t.text.getD 0 0).toNat ∧ (t.text.getD 0 0).toNat ≤ 57)
theorem ahead_head (x : List UInt8) (h : 1 ≤ (aheadOf x).length) : (aheadOf x).getD 0 0 = x.getD 0 0 := by
  cases x with
  | nil => simp [aheadOf] at h
  | cons c r =>
    unfold aheadOf at h ⊢
    rw [List.takeWhile_cons] at h ⊢
    split at h
    · next hc => rw [if_pos hc]; rfl
    · simp at h
theorem tkOf_ok (K : Nat) (x : List UInt8) (p : Nat) (h : errOf K x = 0) : TkOk (tkOf K x p) := by
  unfold errOf at h
  unfold TkOk tkOf valB
  dsimp only
  by_cases k1 : K = 1
  · subst k1
    refine ⟨by rw [if_neg (by decide), if_neg (by decide)]; decide, fun q => by omega⟩
  rw [if_neg k1] at h
  by_cases k2 : K = 2
  · subst k2
    rw [if_pos rfl] at h ⊢
    by_cases hg : GoodDec x
    · exact ⟨by have := hg.2.2.2; omega, fun _ => hg.2.2.1 0 hg.1⟩
    · rw [if_neg hg] at h
      omega
  rw [if_neg k2] at h ⊢
  by_cases k3 : K = 3
  · subst k3
    rw [if_pos rfl] at h ⊢
    by_cases hg : IsLit x
    · refine ⟨quo_lt _ _, fun _ => ?_⟩
      rw [← ahead_head x hg.2.2.2.1.1]
      exact hg.2.2.2.1.2.2.1 0 hg.2.2.2.1.1
    · rw [if_neg hg] at h
      omega
  rw [if_neg k3]
  exact ⟨by decide, fun q => by omega⟩
theorem ahead_ok {a : List Tk} {r : Out} (ha : ∀ t ∈ a, TkOk t) (hr : ∀ t ∈ r.toks, TkOk t) : ∀ t ∈ (r.ahead a).toks, TkOk t := by
  unfold Out.ahead
  split
  · intro t ht
    rcases List.mem_append.1 ht with h | h
    · exact ha t h
    · exact hr t h
  · exact hr
theorem ahead_len {t : Tk} {r : Out} {n : Nat} (hr : r.toks.length ≤ n) : (r.ahead [t]).toks.length ≤ n + 1 := by
  unfold Out.ahead
  split
  · simp; omega
  · omega
theorem lexA_ok (l : List UInt8) (f : Nat) : ∀ p, (∀ t ∈ (lexA l f p).toks, TkOk t) ∧ (lexA l f p).toks.length ≤ f := by
  induction f with
  | zero => intro p; exact ⟨fun t ht => by simp [lexA] at ht, by simp [lexA]⟩
  | succ f ih =>
    intro p
    rw [lexA]
    dsimp only
    split
    · exact ⟨fun t ht => by simp at ht, by simp⟩
    · split
      · exact ⟨fun t ht => by simp at ht, by simp⟩
      · next he =>
        split
        · exact ⟨fun t ht => by simp at ht, by simp⟩
        · refine ⟨ahead_ok (fun t ht => ?_) (ih _).1, ahead_len (ih _).2⟩
          rw [List.mem_singleton.1 ht]
          exact tkOf_ok _ _ _ (by simpa using he)
theorem lexS_ok (l : List UInt8) : (∀ t ∈ (lexS l).toks, TkOk t) ∧ (lexS l).toks.length ≤ 16385 := by
  unfold lexS
  split
  · exact ⟨fun t ht => by simp at ht, by simp⟩
  · exact ⟨(lexA_ok l _ _).1, by have := (lexA_ok l (l.length + 1) (skN l)).2; omega⟩

/-- The tokens of a text, and the one behind them. -/
def toksOf (l : List UInt8) : List Tk := (lexS l).toks ++ [⟨0, [], l.length, 0⟩]
/-- What 'open' tells. -/
def PostO (w : World) (l : List UInt8) (r : Ending) (w' : World) : Prop :=
  if (lexS l).err = 0 then ∃ g, r = .returned (.pointer (some ⟨g, 0, none⟩)) ∧ Rd w'.heap.size w' g (toksOf l) ∧ w.heap.size ≤ g ∧ Below w.heap.size w w'
  else r = PanW (lexS l).err (lexS l).place ∧ Below w.heap.size w w'

theorem flat_range {w : World} {g : Nat} {L : List Tk} (h : ∀ i t, L[i]? = some t → w.rangeAt g (i * 5) t.cells) : w.rangeAt g 0 (flat L) := by
  intro j v hj
  have hjl : j < L.length * 5 := by rw [← flat_length]; exact (List.getElem?_eq_some_iff.1 hj).1
  obtain ⟨t, ht⟩ : ∃ t, L[j / 5]? = some t := ⟨L[j / 5]'(by omega), by rw [List.getElem?_eq_getElem]⟩
  have e := flat_at L (j / 5) t ht
  have := h (j / 5) t ht (j % 5) v (by
    rw [← e, List.getElem?_take, if_pos (by omega), List.getElem?_drop, show j / 5 * 5 + j % 5 = j by omega]
    exact hj)
  rwa [show j / 5 * 5 + j % 5 = 0 + j by omega] at this

theorem fa_cells {w : World} {g e p : Nat} (h : At 29 w g (fa2 e p)) : w.cell? ⟨g, 0, none⟩ = some (.int .i64 (e : Int)) ∧ w.cell? ⟨g, 1, none⟩ = some (.int .i64 (p : Int)) := by
  refine ⟨?_, ?_⟩ <;> (rw [h.cell]; rfl)

set_option maxRecDepth 100000 in
set_option maxHeartbeats 6400000 in
theorem open_any (s : ByteArray) (w : World) (hmax : s.size ≤ 9223372036854775807) (hE : ErrR w) :
    Calls Tryz.prog 25 #[.string s] w fun r w' => PostO w (bytes s) r w' := by
  have hL := lex_any s w hmax hE
  have hok := lexS_ok (bytes s)
  have hsz : (bytes s).length = s.size := bytes_length s
  have HP : Hid (∀ r w', PostO w (bytes s) r w' = if (lexS (bytes s)).err = 0 then ∃ g, r = .returned (.pointer (some ⟨g, 0, none⟩)) ∧ Rd w'.heap.size w' g ((lexS (bytes s)).toks ++ [⟨0, [], s.size, 0⟩]) ∧ w.heap.size ≤ g ∧ Below w.heap.size w w' else r = PanW (lexS (bytes s)).err (lexS (bytes s)).place ∧ Below w.heap.size w w') := fun r w' => by
    unfold PostO toksOf
    rw [hsz]
  unfold LexPost at hL
  generalize lexS (bytes s) = O at *
  obtain ⟨ts, er, pl⟩ := O
  dsimp only at hL HP hok
  by_cases hc : er = 0
  · subst hc
    refine Calls.mono (R := fun r w' => ∃ g, r = .returned (.pointer (some ⟨g, 0, none⟩)) ∧ Rd w'.heap.size w' g (ts ++ [⟨0, [], s.size, 0⟩]) ∧ w.heap.size ≤ g ∧ Below w.heap.size w w') ?_ (fun r w' h => by rw [HP.out, if_pos rfl]; exact h)
    clear HP
    go_enter Tryz.func25, Tryz.ntmps25
    go_wp2_with (first
      | (go_at_call 22; refine hL.mono ?_; rintro r w1 ⟨v, rfl, hTk, hb1⟩)
      | ((with_reducible show wpList _ _ _ _ _ _); refine wpList_alloc_at (o := { dst := some 4, .. }) rfl 29 rfl (fa2 0 0) 2 z25 ?_; intro w2 hA2 hb2 hs2; clear hs2)
      | ((with_reducible show wpList _ _ _ _ _ _); refine wpList_store_at (P := Tryz.prog) rfl 29 (.tmp 4) (.tmp 9) rfl w1.heap.size (fa2 0 pl) rfl rfl 29 _ hA2 i25 rfl (one2f _ _) ?_; intro w3 hA3 hb3 hs3; clear hs3; refine Hid.out ?_))
    refine hidU ?_
    have l1 := hb1.size
    have l2 := hb2.size
    have l3 := hb3.size
    have hB3 : Below w.heap.size w w3 := hb3.below (hb1.trans (hb2.mono hb1.size)) hb1.size (Nat.le_trans hb1.size hb2.size)
    obtain ⟨c0, c1⟩ := fa_cells hA3
    have hTk3 : Toks w.heap.size w3 v ts := hTk.keep fun g _ hlt => by rw [hb3.block g (by omega) (by omega), hb2.block g hlt]
    clear hL hTk hA2 hb1 hb2 hb3 hA3
    go_wp2_with (first
      | ((with_reducible show wpList _ _ _ _ _ _); refine wpList_build_at rfl 64 _ rfl (tok5 0 ⟨#[]⟩ s.size 0 0) (by kernel_rfl) ?_)
      | ((with_reducible show wpList _ _ _ _ _ _); refine wpList_slice1 rfl (.tmp 21) rfl 0 ⟨#[]⟩ s.size 0 0 rfl ?_; intro w4 hA4 hb4 hs4; clear hs4)
      | ((with_reducible show wpList _ _ _ _ _ _); refine wpList_appT rfl (.tmp 18) (.tmp 22) rfl w.heap.size w3.heap.size v ts ⟨0, [], s.size, 0⟩ rfl rfl (hTk3.below hb4) hA4 (by omega) (Nat.le_trans hB3.size hb4.size) ?_; intro v5 w5 hTk5 hb5; refine Hid.out ?_))
    refine hidU ?_
    rcases hTk5.open with ⟨_, h0⟩ | ⟨gt, cap, rfl, g1, g2, g3, g4, g5, g6⟩
    · simp at h0
    have hB5 : Below w.heap.size w w5 := (hB3.trans (hb4.mono hB3.size)).trans hb5
    have HR : Hid (∀ w6, At 97 w6 w5.heap.size [.slice (some ⟨gt, 0, none⟩) (ts ++ [(⟨0, [], s.size, 0⟩ : Tk)]).length cap] → Below w5.heap.size w5 w6 → Rd w6.heap.size w6 w5.heap.size (ts ++ [⟨0, [], s.size, 0⟩])) := fun w6 h1 h2 =>
      ⟨gt, 0, cap, ⟨h1, by omega, g3, fun j v hj => by rw [World.cell?_of_block (w := w5) (h2.block gt g2)]; exact flat_range g5 j v hj, ⟨ts, s.size, rfl⟩, fun t ht => by
        rcases List.mem_append.1 ht with q | q
        · exact (hok.1 t q).1
        · rw [List.mem_singleton.1 q]
          exact (by omega : 0 < 18446744073709551616)⟩, Nat.lt_of_lt_of_le g2 h2.size, h1.lt⟩
    generalize (ts ++ [(⟨0, [], s.size, 0⟩ : Tk)]).length = n at *
    clear hTk5 hTk3 hb4 hb5 hA4 g5 g6 hB3
    go_wp2_with (first
      | ((with_reducible show wpList _ _ _ _ _ _); refine wpList_build_at rfl 97 _ rfl [.slice (some ⟨gt, 0, none⟩) n cap] (by kernel_rfl) ?_)
      | ((with_reducible show wpList _ _ _ _ _ _); refine wpList_box_at rfl 97 (.tmp 24) rfl [.slice (some ⟨gt, 0, none⟩) n cap] rfl ?_; intro w6 hA6 hb6 hs6; clear hs6))
    go_ret
    exact ⟨w5.heap.size, rfl, HR.out w6 hA6 hb6, hB5.size, hB5.trans (hb6.mono hB5.size)⟩
  · refine Calls.mono (R := fun r w' => r = PanW er pl ∧ Below w.heap.size w w') ?_ (fun r w' h => by rw [HP.out, if_neg hc]; exact h)
    clear HP
    go_enter Tryz.func25, Tryz.ntmps25
    go_wp2_with (first
      | (go_at_call 22; refine hL.mono ?_; rintro r w1 ⟨v, rfl, hTk, hb1⟩)
      | ((with_reducible show wpList _ _ _ _ _ _); refine wpList_alloc_at (o := { dst := some 4, .. }) rfl 29 rfl (fa2 0 0) 2 z25 ?_; intro w2 hA2 hb2 hs2; clear hs2)
      | ((with_reducible show wpList _ _ _ _ _ _); refine wpList_store_at (P := Tryz.prog) rfl 29 (.tmp 4) (.tmp 9) rfl w1.heap.size (fa2 er pl) rfl rfl 29 _ hA2 i25 rfl (one2f _ _) ?_; intro w3 hA3 hb3 hs3; clear hs3; refine Hid.out ?_))
    refine hidU ?_
    have hB3 : Below w.heap.size w w3 := hb3.below (hb1.trans (hb2.mono hb1.size)) hb1.size (Nat.le_trans hb1.size hb2.size)
    obtain ⟨c0, c1⟩ := fa_cells hA3
    clear hL hTk hA2 hb1 hb2 hb3
    go_wp2_with (first
      | (go_at_call 54; refine (refuse_any er pl _).mono ?_; rintro r u ⟨hr, rfl⟩; unfold PanW at hr; subst hr))
    exact ⟨rfl, rfl, hB3⟩

end Go.Proofs.YtjgggmjjikopeaaGreatDoor
