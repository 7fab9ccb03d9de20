/- Joined texts of the proof. -/
import Derived.Test.YtjgggmjjikopeaaGreatDoorJ8
import Derived.WalkLawsBesides

/- The reader: a word or sign that is next. -/
namespace Go.Proofs.YtjgggmjjikopeaaGreatDoor
open Go.RowKit
set_option linter.unusedVariables false

/-- How a fault leaves. -/
def PanW (e p : Nat) : Ending := .panicked [{ v := .iface 29 (.agg #[.int .i64 (e : Int), .int .i64 (p : Int)]), recovered := false }]

theorem refuse_any (e p : Nat) (w : World) : Calls Tryz.prog 54 #[.int .i64 (e : Int), .int .i64 (p : Int)] w fun r w' => r = PanW e p ∧ w' = w := by
  go_enter Tryz.func54, Tryz.ntmps54
  go_wp2
  exact ⟨rfl, rfl, rfl⟩

theorem field_text (K : Int) (S : ByteArray) (p t b : Int) (w : World) : (Instr.field 64 (.agg #[.int .i64 K, .string S, .int .i64 p, .int .u8 t, .int .u64 b]) 1).run Tryz.prog w = .ok (.string S) w := by kernel_rfl
theorem field_place (K : Int) (S : ByteArray) (p t b : Int) (w : World) : (Instr.field 64 (.agg #[.int .i64 K, .string S, .int .i64 p, .int .u8 t, .int .u64 b]) 2).run Tryz.prog w = .ok (.int .i64 p) w := by kernel_rfl

set_option maxRecDepth 100000 in
set_option maxHeartbeats 3200000 in
theorem refuseNext_any {B : Nat} (g : Nat) (l : List Tk) (w : World) (h : Rd B w g l) :
    Calls Tryz.prog 60 #[.pointer (some ⟨g, 0, none⟩)] w fun r w' => r = PanW 4 (hdT l).place ∧ Below w.heap.size w w' := by
  have hN := next_any g l w h
  generalize hdT l = t at hN ⊢
  obtain ⟨K, T, p, b⟩ := t
  have hN : Calls Tryz.prog 92 #[.pointer (some ⟨g, 0, none⟩)] w fun r w' => r = .returned (.agg #[.int .i64 (K : Int), .string ⟨T.toArray⟩, .int .i64 (p : Int), .int .u8 (valT K : Nat), .int .u64 (b : Nat)]) ∧ Below w.heap.size w w' := hN
  clear h
  have hf := fun w => field_place K ⟨T.toArray⟩ p (valT K : Nat) b w
  go_enter Tryz.func60, Tryz.ntmps60
  go_wp2_with (first
    | (go_at_call 92; refine hN.mono ?_; rintro r w1 ⟨rfl, hb1⟩)
    | (go_at_call 54; refine (refuse_any 4 p _).mono ?_; rintro r w2 ⟨hr, rfl⟩; unfold PanW at hr; subst hr))
  exact ⟨rfl, rfl, hb1⟩

set_option maxRecDepth 100000 in
set_option maxHeartbeats 3200000 in
theorem takes_any {B : Nat} (g : Nat) (l : List Tk) (x : ByteArray) (hx : bytes x ≠ []) (w : World) (h : Rd B w g l) :
    Calls Tryz.prog 55 #[.pointer (some ⟨g, 0, none⟩), .string x] w fun r w' => r = .returned (.bool (decide ((hdT l).text = bytes x))) ∧ Rd B w' g (if (hdT l).text = bytes x then l.tail else l) ∧ But g w w' := by
  have hN := next_any g l w h
  have HT := fun w (h : Rd B w g l) hn => take_any g l w h hn
  by_cases hc : (hdT l).text = bytes x
  · rw [if_pos hc, decide_eq_true hc]
    have HT : Hid (∀ u, Below w.heap.size w u → Calls Tryz.prog 93 #[.pointer (some ⟨g, 0, none⟩)] u fun r w' => r = .returned (.tuple #[]) ∧ Rd B w' g l.tail ∧ But g u w') := fun u hu => HT u (h.below hu) (.inl (by rw [hc]; exact hx))
    have hs : ((hdT l).text == x.toList) = true := by rw [toList_bytes, beq_iff_eq]; exact hc
    clear hc hx
    generalize hdT l = t at hN hs
    obtain ⟨K, T, p, b⟩ := t
    have hN : Calls Tryz.prog 92 #[.pointer (some ⟨g, 0, none⟩)] w fun r w' => r = .returned (.agg #[.int .i64 (K : Int), .string ⟨T.toArray⟩, .int .i64 (p : Int), .int .u8 (valT K : Nat), .int .u64 (b : Nat)]) ∧ Below w.heap.size w w' := hN
    dsimp only at hs
    have hf := fun w => field_text K ⟨T.toArray⟩ p (valT K : Nat) b w
    go_enter Tryz.func55, Tryz.ntmps55
    go_wp2_with (first
      | (go_at_call 92; refine hN.mono ?_; rintro r w1 ⟨rfl, hb1⟩)
      | (go_at_call 93; refine (HT.out _ hb1).mono ?_; rintro r w2 ⟨rfl, hR, hb2⟩))
    go_ret
    exact ⟨rfl, hR, (But.of_below hb1).trans hb2⟩
  · rw [if_neg hc, decide_eq_false hc]
    have HR : Hid (∀ u, Below w.heap.size w u → Rd B u g l) := fun u hu => h.below hu
    have hs : ((hdT l).text == x.toList) = false := by rw [toList_bytes, beq_eq_false_iff_ne]; exact hc
    clear hc hx HT
    generalize hdT l = t at hN hs
    obtain ⟨K, T, p, b⟩ := t
    have hN : Calls Tryz.prog 92 #[.pointer (some ⟨g, 0, none⟩)] w fun r w' => r = .returned (.agg #[.int .i64 (K : Int), .string ⟨T.toArray⟩, .int .i64 (p : Int), .int .u8 (valT K : Nat), .int .u64 (b : Nat)]) ∧ Below w.heap.size w w' := hN
    dsimp only at hs
    have hf := fun w => field_text K ⟨T.toArray⟩ p (valT K : Nat) b w
    go_enter Tryz.func55, Tryz.ntmps55
    go_wp2_with (first
      | (go_at_call 92; refine hN.mono ?_; rintro r w1 ⟨rfl, hb1⟩))
    go_ret
    exact ⟨rfl, HR.out _ hb1, But.of_below hb1⟩

/-- What 'must' tells. -/
def PostU (B g : Nat) (w : World) (R : Rs Unit) (r : Ending) (w' : World) : Prop :=
  match R with
  | .ok _ l => r = .returned (.tuple #[]) ∧ Rd B w' g l ∧ But g w w'
  | .bad e p => r = PanW e p ∧ But g w w'

set_option maxRecDepth 100000 in
set_option maxHeartbeats 3200000 in
theorem must_any {B : Nat} (g : Nat) (l : List Tk) (x : ByteArray) (hx : bytes x ≠ []) (w : World) (h : Rd B w g l) :
    Calls Tryz.prog 58 #[.pointer (some ⟨g, 0, none⟩), .string x] w fun r w' => PostU B g w (mustR (bytes x) l) r w' := by
  have hT := takes_any g l x hx w h
  by_cases hc : (hdT l).text = bytes x
  · have hm : mustR (bytes x) l = .ok () l.tail := by unfold mustR; rw [if_pos hc]
    rw [hm]
    rw [if_pos hc, decide_eq_true hc] at hT
    clear hc hx h hm
    go_enter Tryz.func58, Tryz.ntmps58
    go_wp2_with (first
      | (go_at_call 55; refine hT.mono ?_; rintro r w1 ⟨rfl, hR, hb1⟩))
    go_end0
    exact ⟨rfl, hR, hb1⟩
  · have hm : mustR (bytes x) l = .bad 4 (hdT l).place := by unfold mustR; rw [if_neg hc]
    rw [hm]
    rw [if_neg hc, decide_eq_false hc] at hT
    have HN : Hid (∀ u, Rd B u g l → Calls Tryz.prog 60 #[.pointer (some ⟨g, 0, none⟩)] u fun r w' => r = PanW 4 (hdT l).place ∧ Below u.heap.size u w') := fun u hu => refuseNext_any g l u hu
    clear hc hx h hm
    generalize (hdT l).place = p at HN ⊢
    go_enter Tryz.func58, Tryz.ntmps58
    go_wp2_with (first
      | (go_at_call 55; refine hT.mono ?_; rintro r w1 ⟨rfl, hR, hb1⟩)
      | (go_at_call 60; refine (HN.out _ hR).mono ?_; rintro r w2 ⟨hr, hb2⟩; unfold PanW at hr; subst hr))
    exact ⟨rfl, rfl, hb1.trans (But.of_below hb2)⟩

/-- What 'name' tells. -/
def PostN (B g : Nat) (w : World) (R : Rs (List UInt8)) (r : Ending) (w' : World) : Prop :=
  match R with
  | .ok x l => r = .returned (.string ⟨x.toArray⟩) ∧ Rd B w' g l ∧ But g w w'
  | .bad e p => r = PanW e p ∧ But g w w'
/-- A name. -/
def nameR (l : List Tk) : Rs (List UInt8) := if isNm (hdT l).text then .ok (hdT l).text l.tail else .bad 4 (hdT l).place
theorem nm_ne {x : List UInt8} (h : isNm x = true) : x ≠ [] := by
  rintro rfl
  exact absurd h (by decide)

set_option maxRecDepth 100000 in
set_option maxHeartbeats 3200000 in
theorem readName_any {B : Nat} (g : Nat) (l : List Tk) (w : World) (h : Rd B w g l) :
    Calls Tryz.prog 57 #[.pointer (some ⟨g, 0, none⟩)] w fun r w' => PostN B g w (nameR l) r w' := by
  have hN := next_any g l w h
  cases hc : isNm (hdT l).text with
  | true =>
    have hm : nameR l = .ok (hdT l).text l.tail := by unfold nameR; rw [if_pos hc]
    rw [hm]
    have HT : Hid (∀ u, Below w.heap.size w u → Calls Tryz.prog 93 #[.pointer (some ⟨g, 0, none⟩)] u fun r w' => r = .returned (.tuple #[]) ∧ Rd B w' g l.tail ∧ But g u w') := fun u hu => take_any g l u (h.below hu) (.inl (nm_ne hc))
    have hM := fun w => name_any ⟨(hdT l).text.toArray⟩ w
    have e : isNm (bytes ⟨(hdT l).text.toArray⟩) = true := hc
    rw [e] at hM
    clear hc hm h e
    generalize hdT l = t at hN hM ⊢
    obtain ⟨K, T, p, b⟩ := t
    have hN : Calls Tryz.prog 92 #[.pointer (some ⟨g, 0, none⟩)] w fun r w' => r = .returned (.agg #[.int .i64 (K : Int), .string ⟨T.toArray⟩, .int .i64 (p : Int), .int .u8 (valT K : Nat), .int .u64 (b : Nat)]) ∧ Below w.heap.size w w' := hN
    dsimp only at hM ⊢
    have hf := fun w => field_text K ⟨T.toArray⟩ p (valT K : Nat) b w
    go_enter Tryz.func57, Tryz.ntmps57
    go_wp2_with (first
      | (go_at_call 92; refine hN.mono ?_; rintro r w1 ⟨rfl, hb1⟩)
      | (go_at_call 77; refine (hM _).mono ?_; rintro r w2 ⟨rfl, rfl⟩)
      | (go_at_call 93; refine (HT.out _ hb1).mono ?_; rintro r w3 ⟨rfl, hR, hb3⟩))
    go_ret
    exact ⟨rfl, hR, (But.of_below hb1).trans hb3⟩
  | false =>
    have hm : nameR l = .bad 4 (hdT l).place := by unfold nameR; rw [if_neg (by rw [hc]; decide)]
    rw [hm]
    have HN : Hid (∀ u, Below w.heap.size w u → Calls Tryz.prog 60 #[.pointer (some ⟨g, 0, none⟩)] u fun r w' => r = PanW 4 (hdT l).place ∧ Below u.heap.size u w') := fun u hu => refuseNext_any g l u (h.below hu)
    have hM := fun w => name_any ⟨(hdT l).text.toArray⟩ w
    have e : isNm (bytes ⟨(hdT l).text.toArray⟩) = false := hc
    rw [e] at hM
    clear hc hm h e
    generalize hdT l = t at hN hM HN ⊢
    obtain ⟨K, T, p, b⟩ := t
    have hN : Calls Tryz.prog 92 #[.pointer (some ⟨g, 0, none⟩)] w fun r w' => r = .returned (.agg #[.int .i64 (K : Int), .string ⟨T.toArray⟩, .int .i64 (p : Int), .int .u8 (valT K : Nat), .int .u64 (b : Nat)]) ∧ Below w.heap.size w w' := hN
    dsimp only at hM HN ⊢
    have hf := fun w => field_text K ⟨T.toArray⟩ p (valT K : Nat) b w
    go_enter Tryz.func57, Tryz.ntmps57
    go_wp2_with (first
      | (go_at_call 92; refine hN.mono ?_; rintro r w1 ⟨rfl, hb1⟩)
      | (go_at_call 77; refine (hM _).mono ?_; rintro r w2 ⟨rfl, rfl⟩)
      | (go_at_call 60; refine (HN.out _ hb1).mono ?_; rintro r w3 ⟨hr, hb3⟩; unfold PanW at hr; subst hr))
    exact ⟨rfl, rfl, (But.of_below hb1).trans (But.of_below hb3)⟩

end Go.Proofs.YtjgggmjjikopeaaGreatDoor

/- A literal. -/
namespace Go.Proofs.YtjgggmjjikopeaaGreatDoor
open Go.RowKit
set_option linter.unusedVariables false

/-- A literal's value, or what stands in the token. -/
def litV (t : Tk) : Nat × Nat := (litTk t).getD (valT t.kind, t.bits)

theorem tk5_cells {w : World} {g : Nat} {K : Nat} {S : ByteArray} {p vt b : Nat} (h : At 64 w g (tok5 K S p vt b)) : w.cell? ⟨g, 0, none⟩ = some (.int .i64 (K : Int)) ∧ w.cell? ⟨g, 1, none⟩ = some (.string S) ∧ w.cell? ⟨g, 2, none⟩ = some (.int .i64 (p : Int)) ∧ w.cell? ⟨g, 3, none⟩ = some (.int .u8 (vt : Int)) ∧ w.cell? ⟨g, 4, none⟩ = some (.int .u64 (b : Int)) := by
  refine ⟨?_, ?_, ?_, ?_, ?_⟩ <;> (rw [h.cell]; rfl)

set_option maxRecDepth 100000 in
set_option maxHeartbeats 6400000 in
theorem literal_any (t : Tk) (w : World) :
    Calls Tryz.prog 126 #[.agg t.cells.toArray] w fun r w' => r = .returned (.tuple #[.agg #[.int .u8 ((litV t).1 : Int), .int .u64 ((litV t).2 : Int)], .bool (litTk t).isSome]) ∧ Below w.heap.size w w' := by
  obtain ⟨K, T, p, b⟩ := t
  show Calls Tryz.prog 126 #[.agg (tok5 K ⟨T.toArray⟩ p (valT K) b).toArray] w _
  by_cases h0 : T = [116, 114, 117, 101]
  · have e : litTk ⟨K, T, p, b⟩ = some (2, 1) := by unfold litTk; rw [if_pos h0]
    have e2 : litV ⟨K, T, p, b⟩ = (2, 1) := by unfold litV; rw [e]; rfl
    rw [e, e2]
    clear e e2 
    subst h0
    generalize valT K = vt
    go_enter Tryz.func126, Tryz.ntmps126
    go_wp2_with (first
    | ((with_reducible show wpList _ _ _ _ _ _); refine wpList_box_at rfl 64 (.tmp 0) rfl (tok5 K ⟨#[116, 114, 117, 101]⟩ p vt b) rfl ?_; intro w1 hA1 hb1 hs1; clear hs1)
    | ((with_reducible show wpList _ _ _ _ _ _); refine wpList_alloc_at rfl 40 rfl (val2 0 0) 2 z32 ?_; intro w2 hA2 hb2 hs2; clear hs2; have hA1 := hA1.below hb2; obtain ⟨q0, q1, q2, q3, q4⟩ := tk5_cells hA1)
    | ((with_reducible show wpList _ _ _ _ _ _); refine wpList_build_at rfl 40 _ rfl (val2 2 1) (by kernel_rfl) ?_)
    | ((with_reducible show wpList _ _ _ _ _ _); refine wpList_store_at (P := Tryz.prog) rfl 40 (.tmp 2) (.tmp 8) rfl w1.heap.size (val2 2 1) rfl rfl 40 (val2 0 0) hA2 i32 rfl (one2 _ _) ?_; intro w9 hA9 hb9 hs9))
    refine bodyPost_ret (results_at_tmp rfl _ _ w1.heap.size 40 (val2 2 1) _ rfl hA9 Tryz.underlying40 rfl i32) rfl ?_
    exact ⟨rfl, hb9.below (hb1.trans (hb2.mono hb1.size)) hb1.size (Nat.le_trans hb1.size hb2.size)⟩
  by_cases h1 : T = [102, 97, 108, 115, 101]
  · have e : litTk ⟨K, T, p, b⟩ = some (2, 0) := by unfold litTk; rw [if_neg h0, if_pos h1]
    have e2 : litV ⟨K, T, p, b⟩ = (2, 0) := by unfold litV; rw [e]; rfl
    rw [e, e2]
    clear e e2 h0 
    subst h1
    generalize valT K = vt
    go_enter Tryz.func126, Tryz.ntmps126
    go_wp2_with (first
    | ((with_reducible show wpList _ _ _ _ _ _); refine wpList_box_at rfl 64 (.tmp 0) rfl (tok5 K ⟨#[102, 97, 108, 115, 101]⟩ p vt b) rfl ?_; intro w1 hA1 hb1 hs1; clear hs1)
    | ((with_reducible show wpList _ _ _ _ _ _); refine wpList_alloc_at rfl 40 rfl (val2 0 0) 2 z32 ?_; intro w2 hA2 hb2 hs2; clear hs2; have hA1 := hA1.below hb2; obtain ⟨q0, q1, q2, q3, q4⟩ := tk5_cells hA1)
    | ((with_reducible show wpList _ _ _ _ _ _); refine wpList_build_at rfl 40 _ rfl (val2 2 0) (by kernel_rfl) ?_)
    | ((with_reducible show wpList _ _ _ _ _ _); refine wpList_store_at (P := Tryz.prog) rfl 40 (.tmp 2) (.tmp 11) rfl w1.heap.size (val2 2 0) rfl rfl 40 (val2 0 0) hA2 i32 rfl (one2 _ _) ?_; intro w9 hA9 hb9 hs9))
    refine bodyPost_ret (results_at_tmp rfl _ _ w1.heap.size 40 (val2 2 0) _ rfl hA9 Tryz.underlying40 rfl i32) rfl ?_
    exact ⟨rfl, hb9.below (hb1.trans (hb2.mono hb1.size)) hb1.size (Nat.le_trans hb1.size hb2.size)⟩
  by_cases h2 : T = [110, 97, 110]
  · have e : litTk ⟨K, T, p, b⟩ = some (3, 9221120237041090560) := by unfold litTk; rw [if_neg h0, if_neg h1, if_pos h2]
    have e2 : litV ⟨K, T, p, b⟩ = (3, 9221120237041090560) := by unfold litV; rw [e]; rfl
    rw [e, e2]
    clear e e2 h0 h1 
    subst h2
    generalize valT K = vt
    go_enter Tryz.func126, Tryz.ntmps126
    go_wp2_with (first
    | ((with_reducible show wpList _ _ _ _ _ _); refine wpList_box_at rfl 64 (.tmp 0) rfl (tok5 K ⟨#[110, 97, 110]⟩ p vt b) rfl ?_; intro w1 hA1 hb1 hs1; clear hs1)
    | ((with_reducible show wpList _ _ _ _ _ _); refine wpList_alloc_at rfl 40 rfl (val2 0 0) 2 z32 ?_; intro w2 hA2 hb2 hs2; clear hs2; have hA1 := hA1.below hb2; obtain ⟨q0, q1, q2, q3, q4⟩ := tk5_cells hA1)
    | ((with_reducible show wpList _ _ _ _ _ _); refine wpList_build_at rfl 40 _ rfl (val2 3 9221120237041090560) (by kernel_rfl) ?_)
    | ((with_reducible show wpList _ _ _ _ _ _); refine wpList_store_at (P := Tryz.prog) rfl 40 (.tmp 2) (.tmp 14) rfl w1.heap.size (val2 3 9221120237041090560) rfl rfl 40 (val2 0 0) hA2 i32 rfl (one2 _ _) ?_; intro w9 hA9 hb9 hs9))
    refine bodyPost_ret (results_at_tmp rfl _ _ w1.heap.size 40 (val2 3 9221120237041090560) _ rfl hA9 Tryz.underlying40 rfl i32) rfl ?_
    exact ⟨rfl, hb9.below (hb1.trans (hb2.mono hb1.size)) hb1.size (Nat.le_trans hb1.size hb2.size)⟩
  by_cases h3 : T = [105, 110, 102]
  · have e : litTk ⟨K, T, p, b⟩ = some (3, 9218868437227405312) := by unfold litTk; rw [if_neg h0, if_neg h1, if_neg h2, if_pos h3]
    have e2 : litV ⟨K, T, p, b⟩ = (3, 9218868437227405312) := by unfold litV; rw [e]; rfl
    rw [e, e2]
    clear e e2 h0 h1 h2 
    subst h3
    generalize valT K = vt
    go_enter Tryz.func126, Tryz.ntmps126
    go_wp2_with (first
    | ((with_reducible show wpList _ _ _ _ _ _); refine wpList_box_at rfl 64 (.tmp 0) rfl (tok5 K ⟨#[105, 110, 102]⟩ p vt b) rfl ?_; intro w1 hA1 hb1 hs1; clear hs1)
    | ((with_reducible show wpList _ _ _ _ _ _); refine wpList_alloc_at rfl 40 rfl (val2 0 0) 2 z32 ?_; intro w2 hA2 hb2 hs2; clear hs2; have hA1 := hA1.below hb2; obtain ⟨q0, q1, q2, q3, q4⟩ := tk5_cells hA1)
    | ((with_reducible show wpList _ _ _ _ _ _); refine wpList_build_at rfl 40 _ rfl (val2 3 9218868437227405312) (by kernel_rfl) ?_)
    | ((with_reducible show wpList _ _ _ _ _ _); refine wpList_store_at (P := Tryz.prog) rfl 40 (.tmp 2) (.tmp 17) rfl w1.heap.size (val2 3 9218868437227405312) rfl rfl 40 (val2 0 0) hA2 i32 rfl (one2 _ _) ?_; intro w9 hA9 hb9 hs9))
    refine bodyPost_ret (results_at_tmp rfl _ _ w1.heap.size 40 (val2 3 9218868437227405312) _ rfl hA9 Tryz.underlying40 rfl i32) rfl ?_
    exact ⟨rfl, hb9.below (hb1.trans (hb2.mono hb1.size)) hb1.size (Nat.le_trans hb1.size hb2.size)⟩
  have n0 : (T == [116, 114, 117, 101]) = false := by rw [beq_eq_false_iff_ne]; exact h0
  have n1 : (T == [102, 97, 108, 115, 101]) = false := by rw [beq_eq_false_iff_ne]; exact h1
  have n2 : (T == [110, 97, 110]) = false := by rw [beq_eq_false_iff_ne]; exact h2
  have n3 : (T == [105, 110, 102]) = false := by rw [beq_eq_false_iff_ne]; exact h3
  have e : litTk ⟨K, T, p, b⟩ = if K = 2 ∨ K = 3 then some (valT K, b) else none := by unfold litTk; rw [if_neg h0, if_neg h1, if_neg h2, if_neg h3]
  have e2 : litV ⟨K, T, p, b⟩ = (valT K, b) := by unfold litV; rw [e]; split <;> rfl
  have e3 : (litTk ⟨K, T, p, b⟩).isSome = decide (K = 2 ∨ K = 3) := by rw [e]; split <;> simp_all
  rw [e3, e2]
  clear e e2 e3 h0 h1 h2 h3
  generalize valT K = vt
  by_cases k2 : K = 2
  · subst k2
    have e : decide ((2 : Nat) = 2 ∨ (2 : Nat) = 3) = true := by decide
    rw [e]
    go_enter Tryz.func126, Tryz.ntmps126
    go_wp2_with (first
      | ((with_reducible show wpList _ _ _ _ _ _); refine wpList_box_at rfl 64 (.tmp 0) rfl (tok5 2 ⟨T.toArray⟩ p vt b) rfl ?_; intro w1 hA1 hb1 hs1; clear hs1; have hA1' := hA1)
      | ((with_reducible show wpList _ _ _ _ _ _); refine wpList_alloc_at rfl 40 rfl (val2 0 0) 2 z32 ?_; intro w2 hA2 hb2 hs2; clear hs2; have hA1 := hA1.below hb2; obtain ⟨q0, q1, q2, q3, q4⟩ := tk5_cells hA1))
    have hS0 : At 64 w2.drew w.heap.size (tok5 2 ⟨T.toArray⟩ p vt b) := hA1.drew
    refine wp_region_held_drew (S := fun x => At 64 x w.heap.size (tok5 2 ⟨T.toArray⟩ p vt b)) (by kernel_rfl) hS0 (fun _ => ?_)
    refine wpAnyH_take (i := 0) (oi := { dst := some 18, op := .fieldAddr 64 (.tmp 1) 3, type := _, pos := _, after := _, guard := none }) (v := .pointer (some ⟨w.heap.size, 3, none⟩)) rfl (by kernel_rfl) (by kernel_rfl) (by kernel_rfl) (fun _ _ _ h => h) (Or.inl ⟨by rfl, ?_⟩) hS0 ?_
    · intro w hSw
      obtain ⟨q0, q1, q2, q3, q4⟩ := tk5_cells hSw
      go_simp
    simp only [Act.put, List.setIfInBounds_toArray, List.set_cons_zero, List.set_cons_succ]
    refine wpAnyH_take (i := 1) (oi := { dst := some 19, op := .load 40 (.tmp 18), type := _, pos := _, after := _, guard := none }) (v := .agg #[.int .u8 (vt : Int), .int .u64 (b : Int)]) rfl (by kernel_rfl) (by kernel_rfl) (by kernel_rfl) (fun _ _ _ h => h) (Or.inl ⟨by rfl, ?_⟩) hS0 ?_
    · intro w hSw
      obtain ⟨q0, q1, q2, q3, q4⟩ := tk5_cells hSw
      go_simp
    simp only [Act.put, List.setIfInBounds_toArray, List.set_cons_zero, List.set_cons_succ]
    refine wpAnyH_take (i := 2) (oi := { dst := some 20, op := .fieldAddr 64 (.tmp 1) 0, type := _, pos := _, after := _, guard := none }) (v := .pointer (some ⟨w.heap.size, 0, none⟩)) rfl (by kernel_rfl) (by kernel_rfl) (by kernel_rfl) (fun _ _ _ h => h) (Or.inl ⟨by rfl, ?_⟩) hS0 ?_
    · intro w hSw
      obtain ⟨q0, q1, q2, q3, q4⟩ := tk5_cells hSw
      go_simp
    simp only [Act.put, List.setIfInBounds_toArray, List.set_cons_zero, List.set_cons_succ]
    refine wpAnyH_take (i := 3) (oi := { dst := some 21, op := .load 3 (.tmp 20), type := _, pos := _, after := _, guard := none }) (v := .int .i64 ((2 : Nat) : Int)) rfl (by kernel_rfl) (by kernel_rfl) (by kernel_rfl) (fun _ _ _ h => h) (Or.inl ⟨by rfl, ?_⟩) hS0 ?_
    · intro w hSw
      obtain ⟨q0, q1, q2, q3, q4⟩ := tk5_cells hSw
      go_simp
    simp only [Act.put, List.setIfInBounds_toArray, List.set_cons_zero, List.set_cons_succ]
    refine wpAnyH_take (i := 4) (oi := { dst := some 22, op := .binOp .eql 3 (.tmp 21) (.const (.int .i64 2)) 3, type := _, pos := _, after := _, guard := none }) (v := .bool true) rfl (by kernel_rfl) (by kernel_rfl) (by kernel_rfl) (fun _ _ _ h => h) (Or.inl ⟨by rfl, ?_⟩) hS0 ?_
    · intro w hSw
      go_simp
    simp only [Act.put, List.setIfInBounds_toArray, List.set_cons_zero, List.set_cons_succ]
    refine wpAnyH_take (i := 5) (oi := { dst := some 23, op := .move (.tmp 22), type := _, pos := _, after := _, guard := none }) (v := .bool true) rfl (by kernel_rfl) (by kernel_rfl) (by kernel_rfl) (fun _ _ _ h => h) (Or.inl ⟨by rfl, ?_⟩) hS0 ?_
    · intro w hSw
      go_simp
    simp only [Act.put, List.setIfInBounds_toArray, List.set_cons_zero, List.set_cons_succ]
    refine wpAnyH_take (i := 6) (oi := { dst := some 24, op := .fieldAddr 64 (.tmp 1) 0, type := _, pos := _, after := _, guard := some (5, false) }) (v := undef) rfl (by kernel_rfl) (by kernel_rfl) (by kernel_rfl) (fun _ _ _ h => h) (Or.inr ⟨by rfl, rfl⟩) hS0 ?_
    simp only [Act.put, List.setIfInBounds_toArray, List.set_cons_zero, List.set_cons_succ]
    refine wpAnyH_take (i := 7) (oi := { dst := some 25, op := .load 3 (.tmp 24), type := _, pos := _, after := _, guard := some (5, false) }) (v := undef) rfl (by kernel_rfl) (by kernel_rfl) (by kernel_rfl) (fun _ _ _ h => h) (Or.inr ⟨by rfl, rfl⟩) hS0 ?_
    simp only [Act.put, List.setIfInBounds_toArray, List.set_cons_zero, List.set_cons_succ]
    refine wpAnyH_take (i := 8) (oi := { dst := some 26, op := .binOp .eql 3 (.tmp 25) (.const (.int .i64 3)) 3, type := _, pos := _, after := _, guard := some (5, false) }) (v := undef) rfl (by kernel_rfl) (by kernel_rfl) (by kernel_rfl) (fun _ _ _ h => h) (Or.inr ⟨by rfl, rfl⟩) hS0 ?_
    simp only [Act.put, List.setIfInBounds_toArray, List.set_cons_zero, List.set_cons_succ]
    refine wpAnyH_take (i := 9) (oi := { dst := some 27, op := .pick (.tmp 23) (.const (.bool true)) (.tmp 26), type := _, pos := _, after := _, guard := none }) (v := .bool true) rfl (by kernel_rfl) (by kernel_rfl) (by kernel_rfl) (fun _ _ _ h => h) (Or.inl ⟨by rfl, ?_⟩) hS0 ?_
    · intro w hSw
      go_simp
    simp only [Act.put, List.setIfInBounds_toArray, List.set_cons_zero, List.set_cons_succ]
    refine wpAnyH_ready (rs := [10]) (by kernel_rfl) (by simp) ?_
    refine AllReadyH.cons (o := { dst := none, op := .store 40 (.tmp 2) (.tmp 19), type := _, pos := _, after := _, guard := none }) rfl (fun K hK => ?_) AllReadyH.nil
    rw [if_pos (by rfl)]
    have hA2d : At 40 w2.drew w1.heap.size (val2 0 0) := hA2.drew
    refine wp_store_mid (P := Tryz.prog) 40 (.tmp 2) (.tmp 19) rfl w1.heap.size 0 (val2 vt b).toArray rfl rfl (hA2d.there 0 2 (by decide)) i32 (all_oneCell_toArray (one2 vt b)) ?_
    have l01 : w.heap.size < w1.heap.size := hA1'.lt
    have hbu : But w1.heap.size w2.drew (w2.drew.setCells w1.heap.size 0 (val2 vt b)) := ((But.refl _ _).setCell 0 _).setCell 1 _
    have hS1 := hbu.at hS0 (by omega)
    have hA9 : At 40 (w2.drew.setCells w1.heap.size 0 (val2 vt b)) w1.heap.size (val2 vt b) := (hA2d.set 0 _).set 1 _
    refine hK.out _ _ hS1 (fun _ => ?_)
    refine wpAnyH_take (i := 11) (oi := { dst := some 3, op := .assign (.tmp 27), type := _, pos := _, after := _, guard := none }) (v := .bool true) rfl (by kernel_rfl) (by kernel_rfl) (by kernel_rfl) (fun _ _ _ h => h) (Or.inl ⟨by rfl, ?_⟩) hS1 ?_
    · intro w hSw
      go_simp
    simp only [Act.put, List.setIfInBounds_toArray, List.set_cons_zero, List.set_cons_succ]
    refine wpAnyH_done (by kernel_rfl) ?_ _
    go_wp2
    refine bodyPost_ret (results_at_tmp rfl _ _ w1.heap.size 40 (val2 vt b) _ rfl hA9 Tryz.underlying40 rfl i32) rfl ?_
    have hdr : Below w.heap.size w w2.drew := Below.drew (hb1.trans (hb2.mono hb1.size))
    exact ⟨rfl, hbu.below hdr hb1.size hdr.size⟩
  by_cases k3 : K = 3
  · subst k3
    have e : decide ((3 : Nat) = 2 ∨ (3 : Nat) = 3) = true := by decide
    rw [e]
    go_enter Tryz.func126, Tryz.ntmps126
    go_wp2_with (first
      | ((with_reducible show wpList _ _ _ _ _ _); refine wpList_box_at rfl 64 (.tmp 0) rfl (tok5 3 ⟨T.toArray⟩ p vt b) rfl ?_; intro w1 hA1 hb1 hs1; clear hs1; have hA1' := hA1)
      | ((with_reducible show wpList _ _ _ _ _ _); refine wpList_alloc_at rfl 40 rfl (val2 0 0) 2 z32 ?_; intro w2 hA2 hb2 hs2; clear hs2; have hA1 := hA1.below hb2; obtain ⟨q0, q1, q2, q3, q4⟩ := tk5_cells hA1))
    have hS0 : At 64 w2.drew w.heap.size (tok5 3 ⟨T.toArray⟩ p vt b) := hA1.drew
    refine wp_region_held_drew (S := fun x => At 64 x w.heap.size (tok5 3 ⟨T.toArray⟩ p vt b)) (by kernel_rfl) hS0 (fun _ => ?_)
    refine wpAnyH_take (i := 0) (oi := { dst := some 18, op := .fieldAddr 64 (.tmp 1) 3, type := _, pos := _, after := _, guard := none }) (v := .pointer (some ⟨w.heap.size, 3, none⟩)) rfl (by kernel_rfl) (by kernel_rfl) (by kernel_rfl) (fun _ _ _ h => h) (Or.inl ⟨by rfl, ?_⟩) hS0 ?_
    · intro w hSw
      obtain ⟨q0, q1, q2, q3, q4⟩ := tk5_cells hSw
      go_simp
    simp only [Act.put, List.setIfInBounds_toArray, List.set_cons_zero, List.set_cons_succ]
    refine wpAnyH_take (i := 1) (oi := { dst := some 19, op := .load 40 (.tmp 18), type := _, pos := _, after := _, guard := none }) (v := .agg #[.int .u8 (vt : Int), .int .u64 (b : Int)]) rfl (by kernel_rfl) (by kernel_rfl) (by kernel_rfl) (fun _ _ _ h => h) (Or.inl ⟨by rfl, ?_⟩) hS0 ?_
    · intro w hSw
      obtain ⟨q0, q1, q2, q3, q4⟩ := tk5_cells hSw
      go_simp
    simp only [Act.put, List.setIfInBounds_toArray, List.set_cons_zero, List.set_cons_succ]
    refine wpAnyH_take (i := 2) (oi := { dst := some 20, op := .fieldAddr 64 (.tmp 1) 0, type := _, pos := _, after := _, guard := none }) (v := .pointer (some ⟨w.heap.size, 0, none⟩)) rfl (by kernel_rfl) (by kernel_rfl) (by kernel_rfl) (fun _ _ _ h => h) (Or.inl ⟨by rfl, ?_⟩) hS0 ?_
    · intro w hSw
      obtain ⟨q0, q1, q2, q3, q4⟩ := tk5_cells hSw
      go_simp
    simp only [Act.put, List.setIfInBounds_toArray, List.set_cons_zero, List.set_cons_succ]
    refine wpAnyH_take (i := 3) (oi := { dst := some 21, op := .load 3 (.tmp 20), type := _, pos := _, after := _, guard := none }) (v := .int .i64 ((3 : Nat) : Int)) rfl (by kernel_rfl) (by kernel_rfl) (by kernel_rfl) (fun _ _ _ h => h) (Or.inl ⟨by rfl, ?_⟩) hS0 ?_
    · intro w hSw
      obtain ⟨q0, q1, q2, q3, q4⟩ := tk5_cells hSw
      go_simp
    simp only [Act.put, List.setIfInBounds_toArray, List.set_cons_zero, List.set_cons_succ]
    refine wpAnyH_take (i := 4) (oi := { dst := some 22, op := .binOp .eql 3 (.tmp 21) (.const (.int .i64 2)) 3, type := _, pos := _, after := _, guard := none }) (v := .bool false) rfl (by kernel_rfl) (by kernel_rfl) (by kernel_rfl) (fun _ _ _ h => h) (Or.inl ⟨by rfl, ?_⟩) hS0 ?_
    · intro w hSw
      go_simp
    simp only [Act.put, List.setIfInBounds_toArray, List.set_cons_zero, List.set_cons_succ]
    refine wpAnyH_take (i := 5) (oi := { dst := some 23, op := .move (.tmp 22), type := _, pos := _, after := _, guard := none }) (v := .bool false) rfl (by kernel_rfl) (by kernel_rfl) (by kernel_rfl) (fun _ _ _ h => h) (Or.inl ⟨by rfl, ?_⟩) hS0 ?_
    · intro w hSw
      go_simp
    simp only [Act.put, List.setIfInBounds_toArray, List.set_cons_zero, List.set_cons_succ]
    refine wpAnyH_take (i := 6) (oi := { dst := some 24, op := .fieldAddr 64 (.tmp 1) 0, type := _, pos := _, after := _, guard := some (5, false) }) (v := .pointer (some ⟨w.heap.size, 0, none⟩)) rfl (by kernel_rfl) (by kernel_rfl) (by kernel_rfl) (fun _ _ _ h => h) (Or.inl ⟨by rfl, ?_⟩) hS0 ?_
    · intro w hSw
      obtain ⟨q0, q1, q2, q3, q4⟩ := tk5_cells hSw
      go_simp
    simp only [Act.put, List.setIfInBounds_toArray, List.set_cons_zero, List.set_cons_succ]
    refine wpAnyH_take (i := 7) (oi := { dst := some 25, op := .load 3 (.tmp 24), type := _, pos := _, after := _, guard := some (5, false) }) (v := .int .i64 ((3 : Nat) : Int)) rfl (by kernel_rfl) (by kernel_rfl) (by kernel_rfl) (fun _ _ _ h => h) (Or.inl ⟨by rfl, ?_⟩) hS0 ?_
    · intro w hSw
      obtain ⟨q0, q1, q2, q3, q4⟩ := tk5_cells hSw
      go_simp
    simp only [Act.put, List.setIfInBounds_toArray, List.set_cons_zero, List.set_cons_succ]
    refine wpAnyH_take (i := 8) (oi := { dst := some 26, op := .binOp .eql 3 (.tmp 25) (.const (.int .i64 3)) 3, type := _, pos := _, after := _, guard := some (5, false) }) (v := .bool true) rfl (by kernel_rfl) (by kernel_rfl) (by kernel_rfl) (fun _ _ _ h => h) (Or.inl ⟨by rfl, ?_⟩) hS0 ?_
    · intro w hSw
      go_simp
    simp only [Act.put, List.setIfInBounds_toArray, List.set_cons_zero, List.set_cons_succ]
    refine wpAnyH_take (i := 9) (oi := { dst := some 27, op := .pick (.tmp 23) (.const (.bool true)) (.tmp 26), type := _, pos := _, after := _, guard := none }) (v := .bool true) rfl (by kernel_rfl) (by kernel_rfl) (by kernel_rfl) (fun _ _ _ h => h) (Or.inl ⟨by rfl, ?_⟩) hS0 ?_
    · intro w hSw
      go_simp
    simp only [Act.put, List.setIfInBounds_toArray, List.set_cons_zero, List.set_cons_succ]
    refine wpAnyH_ready (rs := [10]) (by kernel_rfl) (by simp) ?_
    refine AllReadyH.cons (o := { dst := none, op := .store 40 (.tmp 2) (.tmp 19), type := _, pos := _, after := _, guard := none }) rfl (fun K hK => ?_) AllReadyH.nil
    rw [if_pos (by rfl)]
    have hA2d : At 40 w2.drew w1.heap.size (val2 0 0) := hA2.drew
    refine wp_store_mid (P := Tryz.prog) 40 (.tmp 2) (.tmp 19) rfl w1.heap.size 0 (val2 vt b).toArray rfl rfl (hA2d.there 0 2 (by decide)) i32 (all_oneCell_toArray (one2 vt b)) ?_
    have l01 : w.heap.size < w1.heap.size := hA1'.lt
    have hbu : But w1.heap.size w2.drew (w2.drew.setCells w1.heap.size 0 (val2 vt b)) := ((But.refl _ _).setCell 0 _).setCell 1 _
    have hS1 := hbu.at hS0 (by omega)
    have hA9 : At 40 (w2.drew.setCells w1.heap.size 0 (val2 vt b)) w1.heap.size (val2 vt b) := (hA2d.set 0 _).set 1 _
    refine hK.out _ _ hS1 (fun _ => ?_)
    refine wpAnyH_take (i := 11) (oi := { dst := some 3, op := .assign (.tmp 27), type := _, pos := _, after := _, guard := none }) (v := .bool true) rfl (by kernel_rfl) (by kernel_rfl) (by kernel_rfl) (fun _ _ _ h => h) (Or.inl ⟨by rfl, ?_⟩) hS1 ?_
    · intro w hSw
      go_simp
    simp only [Act.put, List.setIfInBounds_toArray, List.set_cons_zero, List.set_cons_succ]
    refine wpAnyH_done (by kernel_rfl) ?_ _
    go_wp2
    refine bodyPost_ret (results_at_tmp rfl _ _ w1.heap.size 40 (val2 vt b) _ rfl hA9 Tryz.underlying40 rfl i32) rfl ?_
    have hdr : Below w.heap.size w w2.drew := Below.drew (hb1.trans (hb2.mono hb1.size))
    exact ⟨rfl, hbu.below hdr hb1.size hdr.size⟩
  have e : decide (K = 2 ∨ K = 3) = false := decide_eq_false (by omega)
  rw [e]
  have k2' : (K : Int) ≠ 2 := by omega
  have k3' : (K : Int) ≠ 3 := by omega
  clear e
  go_enter Tryz.func126, Tryz.ntmps126
  go_wp2_with (first
    | ((with_reducible show wpList _ _ _ _ _ _); refine wpList_box_at rfl 64 (.tmp 0) rfl (tok5 K ⟨T.toArray⟩ p vt b) rfl ?_; intro w1 hA1 hb1 hs1; clear hs1; have hA1' := hA1)
    | ((with_reducible show wpList _ _ _ _ _ _); refine wpList_alloc_at rfl 40 rfl (val2 0 0) 2 z32 ?_; intro w2 hA2 hb2 hs2; clear hs2; have hA1 := hA1.below hb2; obtain ⟨q0, q1, q2, q3, q4⟩ := tk5_cells hA1))
  have hS0 : At 64 w2.drew w.heap.size (tok5 K ⟨T.toArray⟩ p vt b) := hA1.drew
  refine wp_region_held_drew (S := fun x => At 64 x w.heap.size (tok5 K ⟨T.toArray⟩ p vt b)) (by kernel_rfl) hS0 (fun _ => ?_)
  refine wpAnyH_take (i := 0) (oi := { dst := some 18, op := .fieldAddr 64 (.tmp 1) 3, type := _, pos := _, after := _, guard := none }) (v := .pointer (some ⟨w.heap.size, 3, none⟩)) rfl (by kernel_rfl) (by kernel_rfl) (by kernel_rfl) (fun _ _ _ h => h) (Or.inl ⟨by rfl, ?_⟩) hS0 ?_
  · intro w hSw
    obtain ⟨q0, q1, q2, q3, q4⟩ := tk5_cells hSw
    go_simp
  simp only [Act.put, List.setIfInBounds_toArray, List.set_cons_zero, List.set_cons_succ]
  refine wpAnyH_take (i := 1) (oi := { dst := some 19, op := .load 40 (.tmp 18), type := _, pos := _, after := _, guard := none }) (v := .agg #[.int .u8 (vt : Int), .int .u64 (b : Int)]) rfl (by kernel_rfl) (by kernel_rfl) (by kernel_rfl) (fun _ _ _ h => h) (Or.inl ⟨by rfl, ?_⟩) hS0 ?_
  · intro w hSw
    obtain ⟨q0, q1, q2, q3, q4⟩ := tk5_cells hSw
    go_simp
  simp only [Act.put, List.setIfInBounds_toArray, List.set_cons_zero, List.set_cons_succ]
  refine wpAnyH_take (i := 2) (oi := { dst := some 20, op := .fieldAddr 64 (.tmp 1) 0, type := _, pos := _, after := _, guard := none }) (v := .pointer (some ⟨w.heap.size, 0, none⟩)) rfl (by kernel_rfl) (by kernel_rfl) (by kernel_rfl) (fun _ _ _ h => h) (Or.inl ⟨by rfl, ?_⟩) hS0 ?_
  · intro w hSw
    obtain ⟨q0, q1, q2, q3, q4⟩ := tk5_cells hSw
    go_simp
  simp only [Act.put, List.setIfInBounds_toArray, List.set_cons_zero, List.set_cons_succ]
  refine wpAnyH_take (i := 3) (oi := { dst := some 21, op := .load 3 (.tmp 20), type := _, pos := _, after := _, guard := none }) (v := .int .i64 (K : Int)) rfl (by kernel_rfl) (by kernel_rfl) (by kernel_rfl) (fun _ _ _ h => h) (Or.inl ⟨by rfl, ?_⟩) hS0 ?_
  · intro w hSw
    obtain ⟨q0, q1, q2, q3, q4⟩ := tk5_cells hSw
    go_simp
  simp only [Act.put, List.setIfInBounds_toArray, List.set_cons_zero, List.set_cons_succ]
  refine wpAnyH_take (i := 4) (oi := { dst := some 22, op := .binOp .eql 3 (.tmp 21) (.const (.int .i64 2)) 3, type := _, pos := _, after := _, guard := none }) (v := .bool false) rfl (by kernel_rfl) (by kernel_rfl) (by kernel_rfl) (fun _ _ _ h => h) (Or.inl ⟨by rfl, ?_⟩) hS0 ?_
  · intro w hSw
    go_simp
  simp only [Act.put, List.setIfInBounds_toArray, List.set_cons_zero, List.set_cons_succ]
  refine wpAnyH_take (i := 5) (oi := { dst := some 23, op := .move (.tmp 22), type := _, pos := _, after := _, guard := none }) (v := .bool false) rfl (by kernel_rfl) (by kernel_rfl) (by kernel_rfl) (fun _ _ _ h => h) (Or.inl ⟨by rfl, ?_⟩) hS0 ?_
  · intro w hSw
    go_simp
  simp only [Act.put, List.setIfInBounds_toArray, List.set_cons_zero, List.set_cons_succ]
  refine wpAnyH_take (i := 6) (oi := { dst := some 24, op := .fieldAddr 64 (.tmp 1) 0, type := _, pos := _, after := _, guard := some (5, false) }) (v := .pointer (some ⟨w.heap.size, 0, none⟩)) rfl (by kernel_rfl) (by kernel_rfl) (by kernel_rfl) (fun _ _ _ h => h) (Or.inl ⟨by rfl, ?_⟩) hS0 ?_
  · intro w hSw
    obtain ⟨q0, q1, q2, q3, q4⟩ := tk5_cells hSw
    go_simp
  simp only [Act.put, List.setIfInBounds_toArray, List.set_cons_zero, List.set_cons_succ]
  refine wpAnyH_take (i := 7) (oi := { dst := some 25, op := .load 3 (.tmp 24), type := _, pos := _, after := _, guard := some (5, false) }) (v := .int .i64 (K : Int)) rfl (by kernel_rfl) (by kernel_rfl) (by kernel_rfl) (fun _ _ _ h => h) (Or.inl ⟨by rfl, ?_⟩) hS0 ?_
  · intro w hSw
    obtain ⟨q0, q1, q2, q3, q4⟩ := tk5_cells hSw
    go_simp
  simp only [Act.put, List.setIfInBounds_toArray, List.set_cons_zero, List.set_cons_succ]
  refine wpAnyH_take (i := 8) (oi := { dst := some 26, op := .binOp .eql 3 (.tmp 25) (.const (.int .i64 3)) 3, type := _, pos := _, after := _, guard := some (5, false) }) (v := .bool false) rfl (by kernel_rfl) (by kernel_rfl) (by kernel_rfl) (fun _ _ _ h => h) (Or.inl ⟨by rfl, ?_⟩) hS0 ?_
  · intro w hSw
    go_simp
  simp only [Act.put, List.setIfInBounds_toArray, List.set_cons_zero, List.set_cons_succ]
  refine wpAnyH_take (i := 9) (oi := { dst := some 27, op := .pick (.tmp 23) (.const (.bool true)) (.tmp 26), type := _, pos := _, after := _, guard := none }) (v := .bool false) rfl (by kernel_rfl) (by kernel_rfl) (by kernel_rfl) (fun _ _ _ h => h) (Or.inl ⟨by rfl, ?_⟩) hS0 ?_
  · intro w hSw
    go_simp
  simp only [Act.put, List.setIfInBounds_toArray, List.set_cons_zero, List.set_cons_succ]
  refine wpAnyH_ready (rs := [10]) (by kernel_rfl) (by simp) ?_
  refine AllReadyH.cons (o := { dst := none, op := .store 40 (.tmp 2) (.tmp 19), type := _, pos := _, after := _, guard := none }) rfl (fun K hK => ?_) AllReadyH.nil
  rw [if_pos (by rfl)]
  have hA2d : At 40 w2.drew w1.heap.size (val2 0 0) := hA2.drew
  refine wp_store_mid (P := Tryz.prog) 40 (.tmp 2) (.tmp 19) rfl w1.heap.size 0 (val2 vt b).toArray rfl rfl (hA2d.there 0 2 (by decide)) i32 (all_oneCell_toArray (one2 vt b)) ?_
  have l01 : w.heap.size < w1.heap.size := hA1'.lt
  have hbu : But w1.heap.size w2.drew (w2.drew.setCells w1.heap.size 0 (val2 vt b)) := ((But.refl _ _).setCell 0 _).setCell 1 _
  have hS1 := hbu.at hS0 (by omega)
  have hA9 : At 40 (w2.drew.setCells w1.heap.size 0 (val2 vt b)) w1.heap.size (val2 vt b) := (hA2d.set 0 _).set 1 _
  refine hK.out _ _ hS1 (fun _ => ?_)
  refine wpAnyH_take (i := 11) (oi := { dst := some 3, op := .assign (.tmp 27), type := _, pos := _, after := _, guard := none }) (v := .bool false) rfl (by kernel_rfl) (by kernel_rfl) (by kernel_rfl) (fun _ _ _ h => h) (Or.inl ⟨by rfl, ?_⟩) hS1 ?_
  · intro w hSw
    go_simp
  simp only [Act.put, List.setIfInBounds_toArray, List.set_cons_zero, List.set_cons_succ]
  refine wpAnyH_done (by kernel_rfl) ?_ _
  go_wp2
  refine bodyPost_ret (results_at_tmp rfl _ _ w1.heap.size 40 (val2 vt b) _ rfl hA9 Tryz.underlying40 rfl i32) rfl ?_
  have hdr : Below w.heap.size w w2.drew := Below.drew (hb1.trans (hb2.mono hb1.size))
  exact ⟨rfl, hbu.below hdr hb1.size hdr.size⟩

end Go.Proofs.YtjgggmjjikopeaaGreatDoor

/- An expression of its operands. -/
namespace Go.Proofs.YtjgggmjjikopeaaGreatDoor
open Go.RowKit
set_option linter.unusedVariables false

/-- An expression that lies apart from a block. -/
def Tr (g : Nat) (w : World) (y : ET) : Prop := y.In w.heap.size w ∧ y.Lies (fun k => k ≠ g)
theorem Tr.but {g : Nat} {w w' : World} {y : ET} (h : Tr g w y) (hb : But g w w') : Tr g w' y :=
  ⟨ET.In.up hb.size (ET.In.stay (fun k hk hl => hb.block k hl hk) h.1 h.2), h.2⟩
theorem Tr.below {g : Nat} {w w' : World} {y : ET} (h : Tr g w y) (hb : Below w.heap.size w w') : Tr g w' y := h.but (But.of_below hb)
theorem ex_cells5 {w : World} {g : Nat} {s1 s2 s3 s4 s5 : Value} (h : At 43 w g [s1, s2, s3, s4, s5]) : w.cell? ⟨g, 0, none⟩ = some s1 ∧ w.cell? ⟨g, 1, none⟩ = some s2 ∧ w.cell? ⟨g, 2, none⟩ = some s3 ∧ w.cell? ⟨g, 3, none⟩ = some s4 ∧ w.cell? ⟨g, 4, none⟩ = some s5 := by
  refine ⟨?_, ?_, ?_, ?_, ?_⟩ <;> (rw [h.cell]; rfl)
set_option maxRecDepth 100000 in
set_option maxHeartbeats 3200000 in
theorem node_any (p op : Nat) (a : Option Addr) (c : Nat) (ks : List ET) (w : World) (hin : (ET.mk op 0 0 ⟨#[]⟩ a c ks).In w.heap.size w) (hh : htX (ET.mk op 0 0 ⟨#[]⟩ a c ks).ex ≤ 1048576) :
    Calls Tryz.prog 109 #[.int .i64 (p : Int), .int .u8 (op : Int), .slice a ks.length c] w fun r w' => (if 32 < htX (ET.mk op 0 0 ⟨#[]⟩ a c ks).ex then r = PanW 160 p else r = .returned (.agg (ET.mk op 0 0 ⟨#[]⟩ a c ks).cells.toArray)) ∧ Below w.heap.size w w' := by
  have hH : ∀ u, Below w.heap.size w u → Calls Tryz.prog 142 #[.agg (ET.mk op 0 0 ⟨#[]⟩ a c ks).cells.toArray] u fun r w' => r = .returned (.int .i64 (htX (ET.mk op 0 0 ⟨#[]⟩ a c ks).ex : Int)) ∧ Below u.heap.size u w' := fun u hu =>
    height20_any w.heap.size _ _ (Nat.lt_succ_self _) hh u (hin.old (Old.of_below hu (Nat.le_refl _))) hu.size
  have HH : Hid (∀ u, Below w.heap.size w u → Calls Tryz.prog 142 #[.agg #[.int .u8 (op : Int), .int .u8 0, .int .u64 0, .string ⟨#[]⟩, .slice a ks.length c]] u fun r w' => r = .returned (.int .i64 (htX (ET.mk op 0 0 ⟨#[]⟩ a c ks).ex : Int)) ∧ Below u.heap.size u w') := hH
  have h1 := (ET.mk op 0 0 ⟨#[]⟩ a c ks).one
  show Calls Tryz.prog 109 #[.int .i64 (p : Int), .int .u8 (op : Int), .slice a ks.length c] w fun r w' => (if 32 < htX (ET.mk op 0 0 ⟨#[]⟩ a c ks).ex then r = PanW 160 p else r = .returned (.agg [.int .u8 (op : Int), .int .u8 0, .int .u64 0, .string ⟨#[]⟩, .slice a ks.length c].toArray)) ∧ Below w.heap.size w w'
  have h1 : ∀ v ∈ [Value.int .u8 (op : Int), .int .u8 0, .int .u64 0, .string ⟨#[]⟩, .slice a ks.length c], v.oneCell' = true := h1
  clear hH hin
  generalize ks.length = n at *
  generalize htX (ET.mk op 0 0 ⟨#[]⟩ a c ks).ex = h at *
  by_cases hc : 32 < h
  · simp only [if_pos hc]
    go_enter Tryz.func109, Tryz.ntmps109
    go_wp2_with (first
      | ((with_reducible show wpList _ _ _ _ _ _); refine wpList_alloc_at (o := { dst := some 6, .. }) rfl 43 rfl [.int .u8 0, .int .u8 0, .int .u64 0, .string ⟨#[]⟩, .slice none 0 0] 5 z29 ?_; intro w1 hA1 hb1 hs1; clear hs1)
      | ((with_reducible show wpList _ _ _ _ _ _); refine wpList_build_at rfl 43 _ rfl [.int .u8 (op : Int), .int .u8 0, .int .u64 0, .string ⟨#[]⟩, .slice a n c] (by kernel_rfl) ?_)
      | ((with_reducible show wpList _ _ _ _ _ _); refine wpList_alloc_at (o := { dst := some 7, .. }) rfl 43 rfl [.int .u8 0, .int .u8 0, .int .u64 0, .string ⟨#[]⟩, .slice none 0 0] 5 z29 ?_; intro w2 hA2 hb2 hs2; clear hs2)
      | ((with_reducible show wpList _ _ _ _ _ _); refine wpList_store_at (P := Tryz.prog) rfl 43 (.tmp 7) (.tmp 10) rfl w1.heap.size [.int .u8 (op : Int), .int .u8 0, .int .u64 0, .string ⟨#[]⟩, .slice a n c] rfl rfl 43 _ hA2 i29 rfl h1 ?_; intro w3 hA3 hb3 hs3; refine Hid.out ?_))
    refine hidU ?_
    have l1 := hA1.lt
    have hA13 := hb3.at (hA1.below hb2) (by omega)
    have hB3 : Below w.heap.size w w3 := hb3.below (hb1.trans (hb2.mono hb1.size)) hb1.size (Nat.le_trans hb1.size hb2.size)
    obtain ⟨c0, c1, c2, c3, c4⟩ := ex_cells5 hA3
    have hC := HH.out w3 hB3
    clear hA1 hA2 hb1 hb2 hb3 hs3 HH
    go_wp2_with (first
      | (go_at_call 142; refine hC.mono ?_; rintro r w4 ⟨rfl, hb4⟩)
      | (go_at_call 54; refine (refuse_any 160 p _).mono ?_; rintro r w5 ⟨hr, rfl⟩; unfold PanW at hr; subst hr))
    exact ⟨rfl, rfl, hB3.trans (hb4.mono hB3.size)⟩
  · simp only [if_neg hc]
    go_enter Tryz.func109, Tryz.ntmps109
    go_wp2_with (first
      | ((with_reducible show wpList _ _ _ _ _ _); refine wpList_alloc_at (o := { dst := some 6, .. }) rfl 43 rfl [.int .u8 0, .int .u8 0, .int .u64 0, .string ⟨#[]⟩, .slice none 0 0] 5 z29 ?_; intro w1 hA1 hb1 hs1; clear hs1)
      | ((with_reducible show wpList _ _ _ _ _ _); refine wpList_build_at rfl 43 _ rfl [.int .u8 (op : Int), .int .u8 0, .int .u64 0, .string ⟨#[]⟩, .slice a n c] (by kernel_rfl) ?_)
      | ((with_reducible show wpList _ _ _ _ _ _); refine wpList_alloc_at (o := { dst := some 7, .. }) rfl 43 rfl [.int .u8 0, .int .u8 0, .int .u64 0, .string ⟨#[]⟩, .slice none 0 0] 5 z29 ?_; intro w2 hA2 hb2 hs2; clear hs2)
      | ((with_reducible show wpList _ _ _ _ _ _); refine wpList_store_at (P := Tryz.prog) rfl 43 (.tmp 7) (.tmp 10) rfl w1.heap.size [.int .u8 (op : Int), .int .u8 0, .int .u64 0, .string ⟨#[]⟩, .slice a n c] rfl rfl 43 _ hA2 i29 rfl h1 ?_; intro w3 hA3 hb3 hs3; refine Hid.out ?_))
    refine hidU ?_
    have l1 := hA1.lt
    have hA13 := hb3.at (hA1.below hb2) (by omega)
    have hB3 : Below w.heap.size w w3 := hb3.below (hb1.trans (hb2.mono hb1.size)) hb1.size (Nat.le_trans hb1.size hb2.size)
    obtain ⟨c0, c1, c2, c3, c4⟩ := ex_cells5 hA3
    have hC := HH.out w3 hB3
    clear hA1 hA2 hb1 hb2 hb3 hs3 HH
    go_wp2_with (first
      | (go_at_call 142; refine hC.mono ?_; rintro r w4 ⟨rfl, hb4⟩; refine Hid.out ?_))
    refine hidU ?_
    have hA14 := hA13.below hb4
    obtain ⟨c0, c1, c2, c3, c4⟩ := ex_cells5 (hA3.below hb4)
    go_wp2_with (first
      | ((with_reducible show wpList _ _ _ _ _ _); refine wpList_store_at (P := Tryz.prog) rfl 43 (.tmp 6) (.tmp 16) rfl w.heap.size [.int .u8 (op : Int), .int .u8 0, .int .u64 0, .string ⟨#[]⟩, .slice a n c] rfl rfl 43 _ hA14 i29 rfl h1 ?_; intro w9 hA9 hb9 hs9))
    refine bodyPost_ret (results_at rfl _ _ w.heap.size 43 [.int .u8 (op : Int), .int .u8 0, .int .u64 0, .string ⟨#[]⟩, .slice a n c] _ rfl hA9 Tryz.underlying43 rfl i29) rfl ?_
    have hB4 := hB3.trans (hb4.mono hB3.size)
    exact ⟨rfl, hb9.below hB4 (Nat.le_refl _) hB4.size⟩

end Go.Proofs.YtjgggmjjikopeaaGreatDoor

/- A literal or a name. -/
namespace Go.Proofs.YtjgggmjjikopeaaGreatDoor
open Go.RowKit
set_option linter.unusedVariables false

/-- An expression in blocks from one on. -/
def Tw (A : Nat) (w : World) (y : ET) : Prop := y.In w.heap.size w ∧ y.Lies (fun k => A ≤ k)
theorem Tw.but {A k : Nat} {w w' : World} {y : ET} (h : Tw A w y) (hb : But k w w') (hk : k < A ∨ w.heap.size ≤ k) : Tw A w' y :=
  ⟨ET.In.up hb.size (ET.In.stay (fun j hj hl => hb.block j hl (by omega)) h.1 h.2), h.2⟩
theorem Tw.below {A : Nat} {w w' : World} {y : ET} (h : Tw A w y) (hb : Below w.heap.size w w') : Tw A w' y :=
  ⟨ET.In.up hb.size (ET.In.stay (fun j hj hl => hb.block j hl) h.1 h.2), h.2⟩
theorem Tw.low {A A' : Nat} {w : World} {y : ET} (h : Tw A w y) (hA : A' ≤ A) : Tw A' w y := ⟨h.1, h.2.mono fun k hk => Nat.le_trans hA hk⟩
/-- What a part that reads an expression tells. -/
def PostX (B g : Nat) (w : World) (R : Rs Ex) (r : Ending) (w' : World) : Prop :=
  match R with
  | .ok e l => ∃ y : ET, r = .returned (.agg y.cells.toArray) ∧ y.ex = e ∧ Tw w.heap.size w' y ∧ Rd B w' g l ∧ But g w w'
  | .bad e p => r = PanW e p ∧ But g w w'

theorem lit_ne {t : Tk} (h : (litTk t).isSome = true) : t.text ≠ [] ∨ t.kind ≠ 0 := by
  by_cases hk : t.kind = 0
  · left
    intro ht
    unfold litTk at h
    rw [ht, hk] at h
    simp at h
  · exact .inr hk
theorem lit_lt {t : Tk} (hb : t.bits < 18446744073709551616) : (litV t).1 < 256 ∧ (litV t).2 < 18446744073709551616 := by
  have hv : valT t.kind < 256 := by unfold valT; split <;> (try split) <;> decide
  have go : ∀ (c : Prop) [Decidable c] (a b : Option (Nat × Nat)) (d : Nat × Nat), (a.getD d).1 < 256 ∧ (a.getD d).2 < 18446744073709551616 → (b.getD d).1 < 256 ∧ (b.getD d).2 < 18446744073709551616 → ((if c then a else b).getD d).1 < 256 ∧ ((if c then a else b).getD d).2 < 18446744073709551616 := fun c _ a b d h1 h2 => by
    by_cases h : c
    · rw [if_pos h]; exact h1
    · rw [if_neg h]; exact h2
  unfold litV litTk
  refine go _ _ _ _ ⟨?_, ?_⟩ (go _ _ _ _ ⟨?_, ?_⟩ (go _ _ _ _ ⟨?_, ?_⟩ (go _ _ _ _ ⟨?_, ?_⟩ (go _ _ _ _ ⟨hv, hb⟩ ⟨hv, hb⟩))))
  all_goals exact of_decide_eq_true rfl
theorem vl_cells {w : World} {g : Nat} {vt vb : Nat} (h : At 40 w g (val2 vt vb)) : w.cell? ⟨g, 0, none⟩ = some (.int .u8 (vt : Int)) ∧ w.cell? ⟨g, 1, none⟩ = some (.int .u64 (vb : Int)) := by
  refine ⟨?_, ?_⟩ <;> (rw [h.cell]; rfl)
/-- What is laid behind the blocks that were there changes nothing of these. -/
theorem but_fresh {g : Nat} {w w5 w6 w9 : World} (h5 : Below w.heap.size w w5) (h6 : But g w5 w6) (h9 : But w.heap.size w6 w9) : But g w w9 :=
  ⟨(h9.os.trans h6.os).trans h5.os, (h9.tape.trans h6.tape).trans h5.tape, (h9.output.trans h6.output).trans h5.output, Nat.le_trans h5.size (Nat.le_trans h6.size h9.size), fun k hk hn => by
    rw [h9.block k (Nat.lt_of_lt_of_le hk (Nat.le_trans h5.size h6.size)) (by omega), h6.block k (Nat.lt_of_lt_of_le hk h5.size) hn, h5.block k hk]⟩
/-- What is laid behind the blocks that were there changes nothing of these. -/
theorem But.fresh {g b : Nat} {w w5 w6 : World} (h : But g w w5) (h2 : But b w5 w6) (hb : w.heap.size ≤ b) : But g w w6 :=
  ⟨h2.os.trans h.os, h2.tape.trans h.tape, h2.output.trans h.output, Nat.le_trans h.size h2.size, fun k hk hn => by rw [h2.block k (Nat.lt_of_lt_of_le hk h.size) (by omega), h.block k hk hn]⟩
theorem leaf_tr (A : Nat) (w : World) (op t b : Nat) (nm : ByteArray) (h1 : op < 256) (h2 : t < 256) (h3 : b < 18446744073709551616) : Tw A w (.mk op t b nm none 0 []) := by
  refine ⟨?_, ?_⟩
  · unfold ET.In
    exact ⟨h1, h2, h3, by simp, by simp, .inl rfl⟩
  · unfold ET.Lies
    exact ⟨.inl rfl, trivial⟩

set_option maxRecDepth 100000 in
set_option maxHeartbeats 6400000 in
theorem leaf_any {B : Nat} (g : Nat) (l : List Tk) (w : World) (h : Rd B w g l) (hBw : B ≤ w.heap.size) :
    Calls Tryz.prog 140 #[.pointer (some ⟨g, 0, none⟩)] w fun r w' => PostX B g w (leafR l) r w' := by
  have hlt := h.lt
  have HN : Hid (∀ u, Below w.heap.size w u → Calls Tryz.prog 92 #[.pointer (some ⟨g, 0, none⟩)] u fun r w' => r = .returned (.agg (hdT l).cells.toArray) ∧ Below u.heap.size u w') := fun u hu => next_any g l u (h.below hu)
  have HL : Hid (∀ u, Calls Tryz.prog 126 #[.agg (hdT l).cells.toArray] u fun r w' => r = .returned (.tuple #[.agg #[.int .u8 ((litV (hdT l)).1 : Int), .int .u64 ((litV (hdT l)).2 : Int)], .bool (litTk (hdT l)).isSome]) ∧ Below u.heap.size u w') := fun u => literal_any (hdT l) u
  have hbit : (hdT l).bits < 18446744073709551616 := by
    obtain ⟨_, _, _, h, _⟩ := h
    refine h.bits _ ?_
    rw [h.ends.cons]
    exact List.mem_cons_self
  have hlv := lit_lt hbit
  cases hc : litTk (hdT l) with
  | some v =>
    have hle : leafR l = .ok (.mk 1 v.1 v.2 [] []) l.tail := by unfold leafR; rw [hc]
    have hv : litV (hdT l) = v := by unfold litV; rw [hc]; rfl
    have hn := lit_ne (t := hdT l) (by rw [hc]; rfl)
    rw [hle]
    rw [hv, hc] at HL
    rw [hv] at hlv
    have HT : Hid (∀ u, Below w.heap.size w u → Calls Tryz.prog 93 #[.pointer (some ⟨g, 0, none⟩)] u fun r w' => r = .returned (.tuple #[]) ∧ Rd B w' g l.tail ∧ But g u w') := fun u hu => take_any g l u (h.below hu) hn
    clear hle hv hn h hc hbit
    obtain ⟨vt, vb⟩ := v
    generalize hdT l = t at HN HL
    obtain ⟨K, T, p, b⟩ := t
    have HN : Hid (∀ u, Below w.heap.size w u → Calls Tryz.prog 92 #[.pointer (some ⟨g, 0, none⟩)] u fun r w' => r = .returned (.agg #[.int .i64 (K : Int), .string ⟨T.toArray⟩, .int .i64 (p : Int), .int .u8 (valT K : Nat), .int .u64 (b : Nat)]) ∧ Below u.heap.size u w') := HN
    have HL : Hid (∀ u, Calls Tryz.prog 126 #[.agg #[.int .i64 (K : Int), .string ⟨T.toArray⟩, .int .i64 (p : Int), .int .u8 (valT K : Nat), .int .u64 (b : Nat)]] u fun r w' => r = .returned (.tuple #[.agg #[.int .u8 (vt : Int), .int .u64 (vb : Int)], .bool true]) ∧ Below u.heap.size u w') := HL
    go_enter Tryz.func140, Tryz.ntmps140
    go_wp2_with (first
      | ((with_reducible show wpList _ _ _ _ _ _); refine wpList_alloc_at rfl 43 rfl [.int .u8 0, .int .u8 0, .int .u64 0, .string ⟨#[]⟩, .slice none 0 0] 5 z29 ?_; intro w1 hA1 hb1 hs1; clear hs1)
      | (go_at_call 92; refine (HN.out _ hb1).mono ?_; rintro r w2 ⟨rfl, hb2⟩)
      | (go_at_call 126; refine (HL.out _).mono ?_; rintro r w3 ⟨rfl, hb3⟩)
      | ((with_reducible show wpList _ _ _ _ _ _); refine wpList_alloc_at rfl 40 rfl (val2 0 0) 2 z32 ?_; intro w4 hA4 hb4 hs4; clear hs4)
      | ((with_reducible show wpList _ _ _ _ _ _); refine wpList_store_at (P := Tryz.prog) rfl 40 (.tmp 3) (.tmp 9) rfl w3.heap.size (val2 vt vb) rfl rfl 40 _ hA4 i32 rfl (one2 _ _) ?_; intro w5 hA5 hb5 hs5; refine Hid.out ?_))
    refine hidU ?_
    have l13 : w.heap.size < w3.heap.size := by have := hA1.lt; have := hb2.size; have := hb3.size; omega
    have hB4 : Below w.heap.size w w4 := ((hb1.trans (hb2.mono hb1.size)).trans (hb3.mono (Nat.le_trans hb1.size hb2.size))).trans (hb4.mono (by omega))
    have hB5 : Below w.heap.size w w5 := hb5.below hB4 (by omega) hB4.size
    have hA15 := hb5.at (((hA1.below hb2).below hb3).below hb4) (by omega)
    clear hA1 hA4 hb1 hb2 hb3 hb4 hb5 hs5 HN HL hB4
    go_wp2_with (first
      | (go_at_call 93; refine (HT.out _ hB5).mono ?_; rintro r w6 ⟨rfl, hR, hb6⟩; refine Hid.out ?_))
    refine hidU ?_
    have hA56 := hb6.at hA5 (by omega)
    have hA16 := hb6.at hA15 (by omega)
    obtain ⟨c0, c1⟩ := vl_cells hA56
    clear HT hA15 hA5
    go_wp2_with (first
      | ((with_reducible show wpList _ _ _ _ _ _); refine wpList_build_at rfl 43 _ rfl (ET.mk 1 vt vb ⟨#[]⟩ none 0 []).cells (by kernel_rfl) ?_)
      | ((with_reducible show wpList _ _ _ _ _ _); refine wpList_store_at (P := Tryz.prog) rfl 43 (.tmp 2) (.tmp 15) rfl w.heap.size (ET.mk 1 vt vb ⟨#[]⟩ none 0 []).cells rfl rfl 43 _ hA16 i29 rfl (ET.one _) ?_; intro w9 hA9 hb9 hs9))
    refine bodyPost_ret (results_at rfl _ _ w.heap.size 43 (ET.mk 1 vt vb ⟨#[]⟩ none 0 []).cells _ rfl hA9 Tryz.underlying43 rfl i29) rfl ?_
    refine ⟨.mk 1 vt vb ⟨#[]⟩ none 0 [], rfl, rfl, leaf_tr _ _ _ _ _ _ (by decide) hlv.1 hlv.2, hR.but hb9 hBw, ?_⟩
    exact but_fresh hB5 hb6 hb9
  | none =>
    have hm : leafR l = match nameR l with | .ok x r => .ok (.mk 2 0 0 x []) r | .bad e p => .bad e p := by
      unfold leafR nameR
      rw [hc]
      dsimp only
      split <;> rfl
    rw [hm]
    have HM : Hid (∀ u, Below w.heap.size w u → Calls Tryz.prog 57 #[.pointer (some ⟨g, 0, none⟩)] u fun r w' => PostN B g u (nameR l) r w') := fun u hu => readName_any g l u (h.below hu)
    rw [hc] at HL
    clear hm h hc hbit
    generalize litV (hdT l) = v at HL
    obtain ⟨vt, vb⟩ := v
    generalize hdT l = t at HN HL
    obtain ⟨K, T, p, b⟩ := t
    have HN : Hid (∀ u, Below w.heap.size w u → Calls Tryz.prog 92 #[.pointer (some ⟨g, 0, none⟩)] u fun r w' => r = .returned (.agg #[.int .i64 (K : Int), .string ⟨T.toArray⟩, .int .i64 (p : Int), .int .u8 (valT K : Nat), .int .u64 (b : Nat)]) ∧ Below u.heap.size u w') := HN
    have HL : Hid (∀ u, Calls Tryz.prog 126 #[.agg #[.int .i64 (K : Int), .string ⟨T.toArray⟩, .int .i64 (p : Int), .int .u8 (valT K : Nat), .int .u64 (b : Nat)]] u fun r w' => r = .returned (.tuple #[.agg #[.int .u8 (vt : Int), .int .u64 (vb : Int)], .bool false]) ∧ Below u.heap.size u w') := HL
    cases hnm : nameR l with
    | ok x l' =>
      rw [hnm] at HM
      go_enter Tryz.func140, Tryz.ntmps140
      go_wp2_with (first
        | ((with_reducible show wpList _ _ _ _ _ _); refine wpList_alloc_at rfl 43 rfl [.int .u8 0, .int .u8 0, .int .u64 0, .string ⟨#[]⟩, .slice none 0 0] 5 z29 ?_; intro w1 hA1 hb1 hs1; clear hs1)
        | (go_at_call 92; refine (HN.out _ hb1).mono ?_; rintro r w2 ⟨rfl, hb2⟩)
        | (go_at_call 126; refine (HL.out _).mono ?_; rintro r w3 ⟨rfl, hb3⟩)
        | ((with_reducible show wpList _ _ _ _ _ _); refine wpList_alloc_at rfl 40 rfl (val2 0 0) 2 z32 ?_; intro w4 hA4 hb4 hs4; clear hs4)
        | ((with_reducible show wpList _ _ _ _ _ _); refine wpList_store_at (P := Tryz.prog) rfl 40 (.tmp 3) (.tmp 9) rfl w3.heap.size (val2 vt vb) rfl rfl 40 _ hA4 i32 rfl (one2 _ _) ?_; intro w5 hA5 hb5 hs5; refine Hid.out ?_))
      refine hidU ?_
      have l13 : w.heap.size < w3.heap.size := by have := hA1.lt; have := hb2.size; have := hb3.size; omega
      have hB4 : Below w.heap.size w w4 := ((hb1.trans (hb2.mono hb1.size)).trans (hb3.mono (Nat.le_trans hb1.size hb2.size))).trans (hb4.mono (by omega))
      have hB5 : Below w.heap.size w w5 := hb5.below hB4 (by omega) hB4.size
      have hA15 := hb5.at (((hA1.below hb2).below hb3).below hb4) (by omega)
      clear hA1 hA4 hb1 hb2 hb3 hb4 hb5 hs5 HN HL hB4
      go_wp2_with (first
        | (go_at_call 57; refine (HM.out _ hB5).mono ?_; rintro r w6 ⟨rfl, hR, hb6⟩; refine Hid.out ?_))
      refine hidU ?_
      have hA16 := hb6.at hA15 (by omega)
      clear HM hA15 hA5
      go_wp2_with (first
        | ((with_reducible show wpList _ _ _ _ _ _); refine wpList_build_at rfl 43 _ rfl (ET.mk 2 0 0 ⟨x.toArray⟩ none 0 []).cells (by kernel_rfl) ?_)
        | ((with_reducible show wpList _ _ _ _ _ _); refine wpList_store_at (P := Tryz.prog) rfl 43 (.tmp 2) (.tmp 18) rfl w.heap.size (ET.mk 2 0 0 ⟨x.toArray⟩ none 0 []).cells rfl rfl 43 _ hA16 i29 rfl (ET.one _) ?_; intro w9 hA9 hb9 hs9))
      refine bodyPost_ret (results_at rfl _ _ w.heap.size 43 (ET.mk 2 0 0 ⟨x.toArray⟩ none 0 []).cells _ rfl hA9 Tryz.underlying43 rfl i29) rfl ?_
      refine ⟨.mk 2 0 0 ⟨x.toArray⟩ none 0 [], rfl, rfl, leaf_tr _ _ _ _ _ _ (by decide) (by decide) (by decide), hR.but hb9 hBw, ?_⟩
      exact but_fresh hB5 hb6 hb9
    | bad e q =>
      rw [hnm] at HM
      go_enter Tryz.func140, Tryz.ntmps140
      go_wp2_with (first
        | ((with_reducible show wpList _ _ _ _ _ _); refine wpList_alloc_at rfl 43 rfl [.int .u8 0, .int .u8 0, .int .u64 0, .string ⟨#[]⟩, .slice none 0 0] 5 z29 ?_; intro w1 hA1 hb1 hs1; clear hs1)
        | (go_at_call 92; refine (HN.out _ hb1).mono ?_; rintro r w2 ⟨rfl, hb2⟩)
        | (go_at_call 126; refine (HL.out _).mono ?_; rintro r w3 ⟨rfl, hb3⟩)
        | ((with_reducible show wpList _ _ _ _ _ _); refine wpList_alloc_at rfl 40 rfl (val2 0 0) 2 z32 ?_; intro w4 hA4 hb4 hs4; clear hs4)
        | ((with_reducible show wpList _ _ _ _ _ _); refine wpList_store_at (P := Tryz.prog) rfl 40 (.tmp 3) (.tmp 9) rfl w3.heap.size (val2 vt vb) rfl rfl 40 _ hA4 i32 rfl (one2 _ _) ?_; intro w5 hA5 hb5 hs5; refine Hid.out ?_))
      refine hidU ?_
      have l13 : w.heap.size < w3.heap.size := by have := hA1.lt; have := hb2.size; have := hb3.size; omega
      have hB4 : Below w.heap.size w w4 := ((hb1.trans (hb2.mono hb1.size)).trans (hb3.mono (Nat.le_trans hb1.size hb2.size))).trans (hb4.mono (by omega))
      have hB5 : Below w.heap.size w w5 := hb5.below hB4 (by omega) hB4.size
      have hA15 := hb5.at (((hA1.below hb2).below hb3).below hb4) (by omega)
      clear hA1 hA4 hb1 hb2 hb3 hb4 hb5 hs5 HN HL hB4
      go_wp2_with (first
        | (go_at_call 57; refine (HM.out _ hB5).mono ?_; rintro r w6 ⟨hr, hb6⟩; unfold PanW at hr; subst hr))
      exact ⟨rfl, rfl, (But.of_below hB5).trans hb6⟩

end Go.Proofs.YtjgggmjjikopeaaGreatDoor
