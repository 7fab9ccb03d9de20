/- Joined texts of the proof. -/
import Derived.Test.YtjgggmjjikopeaaGreatDoorJ18
import Derived.Test.YtjgggmjjikopeaaGreatDoorJ20

/- The reader: its next token. -/
namespace Go.Proofs.YtjgggmjjikopeaaGreatDoor
open Go.RowKit
set_option linter.unusedVariables false

/-- The last token is the one without bytes. -/
def Ends (l : List Tk) : Prop := ∃ pre p, l = pre ++ [⟨0, [], p, 0⟩]
theorem Ends.ne {l : List Tk} (h : Ends l) : l ≠ [] := by
  obtain ⟨pre, p, rfl⟩ := h
  simp
theorem Ends.cons {l : List Tk} (h : Ends l) : l = hdT l :: l.tail := by
  cases l with
  | nil => exact absurd rfl h.ne
  | cons t r => rfl
theorem Ends.tail {l : List Tk} (h : Ends l) (hn : (hdT l).text ≠ [] ∨ (hdT l).kind ≠ 0) : Ends l.tail := by
  obtain ⟨pre, p, rfl⟩ := h
  cases pre with
  | nil => exact absurd hn (by simp [hdT])
  | cons t r => exact ⟨r, p, rfl⟩

/-- A reader lies in a block, its tokens in another one. -/
structure RdAt (w : World) (g gt o c : Nat) (l : List Tk) : Prop where
  cell : At 97 w g [.slice (some ⟨gt, o, none⟩) l.length c]
  ne : gt ≠ g
  cap : l.length ≤ c
  toks : w.rangeAt gt o (flat l)
  ends : Ends l
  bits : ∀ t ∈ l, t.bits < 18446744073709551616
/-- A reader, and the tokens that it has ahead. -/
def Rd (B : Nat) (w : World) (g : Nat) (l : List Tk) : Prop := ∃ gt o c, RdAt w g gt o c l ∧ gt < B ∧ g < B

theorem flat_cons (t : Tk) (r : List Tk) : flat (t :: r) = t.cells ++ flat r := rfl
theorem cells_lt {w : World} {g o : Nat} {v : Value} (h : w.cell? ⟨g, o, none⟩ = some v) : g < w.heap.size := lt_of_cell h
theorem RdAt.head {w : World} {g gt o c : Nat} {l : List Tk} (h : RdAt w g gt o c l) : w.rangeAt gt o (hdT l).cells := by
  intro j v hj
  refine h.toks j v ?_
  rw [h.ends.cons, flat_cons, List.getElem?_append_left (List.getElem?_eq_some_iff.1 hj).1]
  exact hj
theorem RdAt.gt_lt {w : World} {g gt o c : Nat} {l : List Tk} (h : RdAt w g gt o c l) : gt < w.heap.size := cells_lt (h.head 0 _ rfl)
theorem RdAt.g_lt {w : World} {g gt o c : Nat} {l : List Tk} (h : RdAt w g gt o c l) : g < w.heap.size := h.cell.lt
theorem Rd.lt {B : Nat} {w : World} {g : Nat} {l : List Tk} (h : Rd B w g l) : g < w.heap.size := by
  obtain ⟨_, _, _, h, _⟩ := h
  exact h.g_lt
theorem RdAt.below {w w' : World} {g gt o c : Nat} {l : List Tk} (h : RdAt w g gt o c l) (hb : Below w.heap.size w w') : RdAt w' g gt o c l :=
  ⟨h.cell.below hb, h.ne, h.cap, fun j v hj => by rw [World.cell?_of_block (w := w) (hb.block gt h.gt_lt)]; exact h.toks j v hj, h.ends, h.bits⟩
theorem Rd.below {B : Nat} {w w' : World} {g : Nat} {l : List Tk} (h : Rd B w g l) (hb : Below w.heap.size w w') : Rd B w' g l := by
  obtain ⟨gt, o, c, h, h2⟩ := h
  exact ⟨gt, o, c, h.below hb, h2⟩
/-- Another block is written. -/
theorem RdAt.but {w w' : World} {g gt o c k : Nat} {l : List Tk} (h : RdAt w g gt o c l) (hb : But k w w') (h1 : g ≠ k) (h2 : gt ≠ k) : RdAt w' g gt o c l :=
  ⟨hb.at h.cell h1, h.ne, h.cap, fun j v hj => by rw [World.cell?_of_block (w := w) (hb.block gt h.gt_lt h2)]; exact h.toks j v hj, h.ends, h.bits⟩

/-- A block from B on is written. -/
theorem Rd.but {B : Nat} {w w' : World} {g k : Nat} {l : List Tk} (h : Rd B w g l) (hb : But k w w') (hk : B ≤ k) : Rd B w' g l := by
  obtain ⟨gt, o, c, h, h1, h2⟩ := h
  exact ⟨gt, o, c, h.but hb (by omega) (by omega), h1, h2⟩

theorem tk_cells {w : World} {g o : Nat} {t : Tk} (h : w.rangeAt g o t.cells) : w.cell? ⟨g, o, none⟩ = some (.int .i64 (t.kind : Int)) ∧ w.cell? ⟨g, o + 1, none⟩ = some (.string ⟨t.text.toArray⟩) ∧ w.cell? ⟨g, o + 2, none⟩ = some (.int .i64 (t.place : Int)) ∧ w.cell? ⟨g, o + 3, none⟩ = some (.int .u8 (valT t.kind : Nat)) ∧ w.cell? ⟨g, o + 4, none⟩ = some (.int .u64 (t.bits : Nat)) :=
  ⟨h 0 _ rfl, h 1 _ rfl, h 2 _ rfl, h 3 _ rfl, h 4 _ rfl⟩

set_option maxRecDepth 100000 in
set_option maxHeartbeats 3200000 in
theorem next_any {B : Nat} (g : Nat) (l : List Tk) (w : World) (h : Rd B w g l) :
    Calls Tryz.prog 92 #[.pointer (some ⟨g, 0, none⟩)] w fun r w' => r = .returned (.agg (hdT l).cells.toArray) ∧ Below w.heap.size w w' := by
  obtain ⟨gt, o, c, h, _⟩ := h
  obtain ⟨q0, q1, q2, q3, q4⟩ := tk_cells h.head
  have hl : l.length = l.tail.length + 1 := by rw [h.ends.cons]; rfl
  have hc := h.cell.cell 0
  have hlt := h.gt_lt
  have hlg := h.g_lt
  generalize hdT l = t at q0 q1 q2 q3 q4 ⊢
  generalize l.tail.length = m at hl
  rw [hl] at hc
  clear h hl
  show Calls Tryz.prog 92 #[.pointer (some ⟨g, 0, none⟩)] w fun r w' => r = .returned (.agg (tok5 t.kind ⟨t.text.toArray⟩ t.place (valT t.kind) t.bits).toArray) ∧ Below w.heap.size w w'
  obtain ⟨K, T, p, b⟩ := t
  generalize valT K = vt at *
  have hc : w.cell? ⟨g, 0, none⟩ = some (.slice (some ⟨gt, o, none⟩) (m + 1) c) := hc
  dsimp only at q0 q1 q2 q3 q4 ⊢
  go_enter Tryz.func92, Tryz.ntmps92
  go_wp2_with (first
    | ((with_reducible show wpList _ _ _ _ _ _); refine wpList_alloc_at rfl 64 rfl (tok5 0 ⟨#[]⟩ 0 0 0) 5 z34 ?_; intro w1 hA1 hb1 hs1; rw [← hb1.cell hlt] at q0 q1 q2 q3 q4; rw [← hb1.cell hlg] at hc)
    | ((with_reducible show wpList _ _ _ _ _ _); refine wpList_store_at (P := Tryz.prog) rfl 64 (.tmp 2) (.tmp 8) rfl w.heap.size (tok5 K ⟨T.toArray⟩ p vt b) rfl rfl 64 (tok5 0 ⟨#[]⟩ 0 0 0) hA1 i34 rfl (one5T _ _ _ _ _) ?_; intro w9 hA9 hb9 hs9))
  refine bodyPost_ret (results_at rfl _ _ w.heap.size 64 (tok5 K ⟨T.toArray⟩ p vt b) _ rfl hA9 Tryz.underlying64 rfl i34) rfl ?_
  exact ⟨rfl, hb9.below hb1 (Nat.le_refl _) (by omega)⟩

theorem i60 : (Tryz.prog.info? 60).map (·.size) = some 1 := by kernel_rfl
theorem run_slice_one (w : World) (gt o m c : Nat) (hm : m + 1 ≤ c) (h1 : 1 ≤ m) : (Instr.slice 60 (.slice (some ⟨gt, o, none⟩) (m + 1) c) (some (.int .i64 1)) none none).run Tryz.prog w = .ok (.slice (some ⟨gt, o + 5, none⟩) m (c - 1)) w := by
  simp [go_sem, Instr.slice]
  rw [if_pos (by omega), if_neg (by omega)]

set_option maxRecDepth 100000 in
set_option maxHeartbeats 3200000 in
theorem take_any {B : Nat} (g : Nat) (l : List Tk) (w : World) (h : Rd B w g l) (hn : (hdT l).text ≠ [] ∨ (hdT l).kind ≠ 0) :
    Calls Tryz.prog 93 #[.pointer (some ⟨g, 0, none⟩)] w fun r w' => r = .returned (.tuple #[]) ∧ Rd B w' g l.tail ∧ But g w w' := by
  obtain ⟨gt, o, c, h, hB⟩ := h
  have hl : l.length = l.tail.length + 1 := by rw [h.ends.cons]; rfl
  have hc := h.cell.cell 0
  have HA : Hid (At 97 w g [.slice (some ⟨gt, o, none⟩) l.length c]) := h.cell
  have hcap := h.cap
  have hm1 : 1 ≤ l.tail.length := List.length_pos_iff.2 (h.ends.tail hn).ne
  have HG : Hid (∀ w', At 97 w' g [.slice (some ⟨gt, o + 5, none⟩) l.tail.length (c - 1)] → But g w w' → Rd B w' g l.tail) := fun w' h1 h2 =>
    ⟨gt, o + 5, c - 1, ⟨h1, h.ne, by have := h.cap; omega, fun j v hj => by
      rw [World.cell?_of_block (w := w) (h2.block gt h.gt_lt h.ne)]
      have := h.toks (j + 5) v (by
        rw [h.ends.cons, flat_cons, List.getElem?_append_right (by show 5 ≤ j + 5; omega)]
        exact hj)
      rw [show o + 5 + j = o + (j + 5) by omega]
      exact this, h.ends.tail hn, fun t ht => h.bits t (List.mem_of_mem_tail ht)⟩, hB⟩
  generalize l.tail.length = m at hl HG hm1
  rw [hl] at hc hcap HA
  clear h hl
  have hc : w.cell? ⟨g, 0, none⟩ = some (.slice (some ⟨gt, o, none⟩) (m + 1) c) := hc
  have hS := fun w => run_slice_one w gt o m c hcap hm1
  go_enter Tryz.func93, Tryz.ntmps93
  go_wp2_with (first
    | ((with_reducible show wpList _ _ _ _ _ _); refine wpList_store_one (P := Tryz.prog) rfl 60 (.tmp 9) (.tmp 7) rfl g 0 (.slice (some ⟨gt, o + 5, none⟩) m (c - 1)) rfl rfl 97 _ HA.out (show 0 + 1 ≤ 1 by decide) i60 rfl rfl ?_; intro w6 hA6 hb6 hs6; refine Hid.out ?_))
  refine hidU ?_
  have hR := HG.out w6 hA6 hb6
  clear HG hA6 HA hS hc hcap
  go_wp2
  go_end0
  exact ⟨rfl, hR, hb6⟩

end Go.Proofs.YtjgggmjjikopeaaGreatDoor

/- The reader: a word or sign that is next. -/
namespace Go.Proofs.YtjgggmjjikopeaaGreatDoor
open Go.RowKit
set_option linter.unusedVariables false

/-- How a fault leaves. -/
def PanW (e p : Nat) : Ending := .panicked [{ v := .iface 29 (.agg #[.int .i64 (e : Int), .int .i64 (p : Int)]), recovered := false }]

theorem refuse_any (e p : Nat) (w : World) : Calls Tryz.prog 54 #[.int .i64 (e : Int), .int .i64 (p : Int)] w fun r w' => r = PanW e p ∧ w' = w := by
  go_enter Tryz.func54, Tryz.ntmps54
  go_wp2
  exact ⟨rfl, rfl, rfl⟩

theorem field_text (K : Int) (S : ByteArray) (p t b : Int) (w : World) : (Instr.field 64 (.agg #[.int .i64 K, .string S, .int .i64 p, .int .u8 t, .int .u64 b]) 1).run Tryz.prog w = .ok (.string S) w := by kernel_rfl
theorem field_place (K : Int) (S : ByteArray) (p t b : Int) (w : World) : (Instr.field 64 (.agg #[.int .i64 K, .string S, .int .i64 p, .int .u8 t, .int .u64 b]) 2).run Tryz.prog w = .ok (.int .i64 p) w := by kernel_rfl

set_option maxRecDepth 100000 in
set_option maxHeartbeats 3200000 in
theorem refuseNext_any {B : Nat} (g : Nat) (l : List Tk) (w : World) (h : Rd B w g l) :
    Calls Tryz.prog 60 #[.pointer (some ⟨g, 0, none⟩)] w fun r w' => r = PanW 4 (hdT l).place ∧ Below w.heap.size w w' := by
  have hN := next_any g l w h
  generalize hdT l = t at hN ⊢
  obtain ⟨K, T, p, b⟩ := t
  have hN : Calls Tryz.prog 92 #[.pointer (some ⟨g, 0, none⟩)] w fun r w' => r = .returned (.agg #[.int .i64 (K : Int), .string ⟨T.toArray⟩, .int .i64 (p : Int), .int .u8 (valT K : Nat), .int .u64 (b : Nat)]) ∧ Below w.heap.size w w' := hN
  clear h
  have hf := fun w => field_place K ⟨T.toArray⟩ p (valT K : Nat) b w
  go_enter Tryz.func60, Tryz.ntmps60
  go_wp2_with (first
    | (go_at_call 92; refine hN.mono ?_; rintro r w1 ⟨rfl, hb1⟩)
    | (go_at_call 54; refine (refuse_any 4 p _).mono ?_; rintro r w2 ⟨hr, rfl⟩; unfold PanW at hr; subst hr))
  exact ⟨rfl, rfl, hb1⟩

set_option maxRecDepth 100000 in
set_option maxHeartbeats 3200000 in
theorem takes_any {B : Nat} (g : Nat) (l : List Tk) (x : ByteArray) (hx : bytes x ≠ []) (w : World) (h : Rd B w g l) :
    Calls Tryz.prog 55 #[.pointer (some ⟨g, 0, none⟩), .string x] w fun r w' => r = .returned (.bool (decide ((hdT l).text = bytes x))) ∧ Rd B w' g (if (hdT l).text = bytes x then l.tail else l) ∧ But g w w' := by
  have hN := next_any g l w h
  have HT := fun w (h : Rd B w g l) hn => take_any g l w h hn
  by_cases hc : (hdT l).text = bytes x
  focus
    rw [if_pos hc, decide_eq_true hc]
    have HT : Hid (∀ u, Below w.heap.size w u → Calls Tryz.prog 93 #[.pointer (some ⟨g, 0, none⟩)] u fun r w' => r = .returned (.tuple #[]) ∧ Rd B w' g l.tail ∧ But g u w') := fun u hu => HT u (h.below hu) (.inl (by rw [hc]; exact hx))
    have hs : ((hdT l).text == x.toList) = true := by rw [toList_bytes, beq_iff_eq]; exact hc
    clear hc hx
  rotate_left
  focus
    rw [if_neg hc, decide_eq_false hc]
    have HR : Hid (∀ u, Below w.heap.size w u → Rd B u g l) := fun u hu => h.below hu
    have hs : ((hdT l).text == x.toList) = false := by rw [toList_bytes, beq_eq_false_iff_ne]; exact hc
    clear hc hx HT
  rotate_left
  all_goals
    generalize hdT l = t at hN hs
    obtain ⟨K, T, p, b⟩ := t
    have hN : Calls Tryz.prog 92 #[.pointer (some ⟨g, 0, none⟩)] w fun r w' => r = .returned (.agg #[.int .i64 (K : Int), .string ⟨T.toArray⟩, .int .i64 (p : Int), .int .u8 (valT K : Nat), .int .u64 (b : Nat)]) ∧ Below w.heap.size w w' := hN
    dsimp only at hs
    have hf := fun w => field_text K ⟨T.toArray⟩ p (valT K : Nat) b w
    go_enter Tryz.func55, Tryz.ntmps55
  · go_wp2_with (first
      | (go_at_call 92; refine hN.mono ?_; rintro r w1 ⟨rfl, hb1⟩)
      | (go_at_call 93; refine (HT.out _ hb1).mono ?_; rintro r w2 ⟨rfl, hR, hb2⟩))
    go_ret
    exact ⟨rfl, hR, (But.of_below hb1).trans hb2⟩
  · go_wp2_with (first
      | (go_at_call 92; refine hN.mono ?_; rintro r w1 ⟨rfl, hb1⟩))
    go_ret
    exact ⟨rfl, HR.out _ hb1, But.of_below hb1⟩
/-- What 'must' tells. -/
def PostU (B g : Nat) (w : World) (R : Rs Unit) (r : Ending) (w' : World) : Prop :=
  match R with
  | .ok _ l => r = .returned (.tuple #[]) ∧ Rd B w' g l ∧ But g w w'
  | .bad e p => r = PanW e p ∧ But g w w'

set_option maxRecDepth 100000 in
set_option maxHeartbeats 3200000 in
theorem must_any {B : Nat} (g : Nat) (l : List Tk) (x : ByteArray) (hx : bytes x ≠ []) (w : World) (h : Rd B w g l) :
    Calls Tryz.prog 58 #[.pointer (some ⟨g, 0, none⟩), .string x] w fun r w' => PostU B g w (mustR (bytes x) l) r w' := by
  have hT := takes_any g l x hx w h
  by_cases hc : (hdT l).text = bytes x
  · have hm : mustR (bytes x) l = .ok () l.tail := by unfold mustR; rw [if_pos hc]
    rw [hm]
    rw [if_pos hc, decide_eq_true hc] at hT
    clear hc hx h hm
    go_enter Tryz.func58, Tryz.ntmps58
    go_wp2_with (first
      | (go_at_call 55; refine hT.mono ?_; rintro r w1 ⟨rfl, hR, hb1⟩))
    go_end0
    exact ⟨rfl, hR, hb1⟩
  · have hm : mustR (bytes x) l = .bad 4 (hdT l).place := by unfold mustR; rw [if_neg hc]
    rw [hm]
    rw [if_neg hc, decide_eq_false hc] at hT
    have HN : Hid (∀ u, Rd B u g l → Calls Tryz.prog 60 #[.pointer (some ⟨g, 0, none⟩)] u fun r w' => r = PanW 4 (hdT l).place ∧ Below u.heap.size u w') := fun u hu => refuseNext_any g l u hu
    clear hc hx h hm
    generalize (hdT l).place = p at HN ⊢
    go_enter Tryz.func58, Tryz.ntmps58
    go_wp2_with (first
      | (go_at_call 55; refine hT.mono ?_; rintro r w1 ⟨rfl, hR, hb1⟩)
      | (go_at_call 60; refine (HN.out _ hR).mono ?_; rintro r w2 ⟨hr, hb2⟩; unfold PanW at hr; subst hr))
    exact ⟨rfl, rfl, hb1.trans (But.of_below hb2)⟩

/-- What 'name' tells. -/
def PostN (B g : Nat) (w : World) (R : Rs (List UInt8)) (r : Ending) (w' : World) : Prop :=
  match R with
  | .ok x l => r = .returned (.string ⟨x.toArray⟩) ∧ Rd B w' g l ∧ But g w w'
  | .bad e p => r = PanW e p ∧ But g w w'
/-- A name. -/
def nameR (l : List Tk) : Rs (List UInt8) := if isNm (hdT l).text then .ok (hdT l).text l.tail else .bad 4 (hdT l).place
theorem nm_ne {x : List UInt8} (h : isNm x = true) : x ≠ [] := by
  rintro rfl
  exact absurd h (by decide)

set_option maxRecDepth 100000 in
set_option maxHeartbeats 3200000 in
theorem readName_any {B : Nat} (g : Nat) (l : List Tk) (w : World) (h : Rd B w g l) :
    Calls Tryz.prog 57 #[.pointer (some ⟨g, 0, none⟩)] w fun r w' => PostN B g w (nameR l) r w' := by
  have hN := next_any g l w h
  cases hc : isNm (hdT l).text
  focus
    have hm : nameR l = .bad 4 (hdT l).place := by unfold nameR; rw [if_neg (by rw [hc]; decide)]
    rw [hm]
    have HN : Hid (∀ u, Below w.heap.size w u → Calls Tryz.prog 60 #[.pointer (some ⟨g, 0, none⟩)] u fun r w' => r = PanW 4 (hdT l).place ∧ Below u.heap.size u w') := fun u hu => refuseNext_any g l u (h.below hu)
    have hM := fun w => name_any ⟨(hdT l).text.toArray⟩ w
    have e : isNm (bytes ⟨(hdT l).text.toArray⟩) = false := hc
    rw [e] at hM
    clear hc hm h e
    generalize hdT l = t at hN hM HN ⊢
  rotate_left
  focus
    have hm : nameR l = .ok (hdT l).text l.tail := by unfold nameR; rw [if_pos hc]
    rw [hm]
    have HT : Hid (∀ u, Below w.heap.size w u → Calls Tryz.prog 93 #[.pointer (some ⟨g, 0, none⟩)] u fun r w' => r = .returned (.tuple #[]) ∧ Rd B w' g l.tail ∧ But g u w') := fun u hu => take_any g l u (h.below hu) (.inl (nm_ne hc))
    have hM := fun w => name_any ⟨(hdT l).text.toArray⟩ w
    have e : isNm (bytes ⟨(hdT l).text.toArray⟩) = true := hc
    rw [e] at hM
    clear hc hm h e
    generalize hdT l = t at hN hM ⊢
  rotate_left
  all_goals
    obtain ⟨K, T, p, b⟩ := t
    have hN : Calls Tryz.prog 92 #[.pointer (some ⟨g, 0, none⟩)] w fun r w' => r = .returned (.agg #[.int .i64 (K : Int), .string ⟨T.toArray⟩, .int .i64 (p : Int), .int .u8 (valT K : Nat), .int .u64 (b : Nat)]) ∧ Below w.heap.size w w' := hN
  focus
    dsimp only at hM HN ⊢
  rotate_left
  focus
    dsimp only at hM ⊢
  rotate_left
  all_goals
    have hf := fun w => field_text K ⟨T.toArray⟩ p (valT K : Nat) b w
    go_enter Tryz.func57, Tryz.ntmps57
  · go_wp2_with (first
      | (go_at_call 92; refine hN.mono ?_; rintro r w1 ⟨rfl, hb1⟩)
      | (go_at_call 77; refine (hM _).mono ?_; rintro r w2 ⟨rfl, rfl⟩)
      | (go_at_call 60; refine (HN.out _ hb1).mono ?_; rintro r w3 ⟨hr, hb3⟩; unfold PanW at hr; subst hr))
    exact ⟨rfl, rfl, (But.of_below hb1).trans (But.of_below hb3)⟩
  · go_wp2_with (first
      | (go_at_call 92; refine hN.mono ?_; rintro r w1 ⟨rfl, hb1⟩)
      | (go_at_call 77; refine (hM _).mono ?_; rintro r w2 ⟨rfl, rfl⟩)
      | (go_at_call 93; refine (HT.out _ hb1).mono ?_; rintro r w3 ⟨rfl, hR, hb3⟩))
    go_ret
    exact ⟨rfl, hR, (But.of_below hb1).trans hb3⟩
end Go.Proofs.YtjgggmjjikopeaaGreatDoor

/- A literal. -/
namespace Go.Proofs.YtjgggmjjikopeaaGreatDoor
open Go.RowKit
set_option linter.unusedVariables false

/-- A literal's value, or what stands in the token. -/
def litV (t : Tk) : Nat × Nat := (litTk t).getD (valT t.kind, t.bits)

theorem tk5_cells {w : World} {g : Nat} {K : Nat} {S : ByteArray} {p vt b : Nat} (h : At 64 w g (tok5 K S p vt b)) : w.cell? ⟨g, 0, none⟩ = some (.int .i64 (K : Int)) ∧ w.cell? ⟨g, 1, none⟩ = some (.string S) ∧ w.cell? ⟨g, 2, none⟩ = some (.int .i64 (p : Int)) ∧ w.cell? ⟨g, 3, none⟩ = some (.int .u8 (vt : Int)) ∧ w.cell? ⟨g, 4, none⟩ = some (.int .u64 (b : Int)) := by
  refine ⟨?_, ?_, ?_, ?_, ?_⟩ <;> (rw [h.cell]; rfl)

set_option maxRecDepth 100000 in
set_option maxHeartbeats 6400000 in
theorem literal_any (t : Tk) (w : World) :
    Calls Tryz.prog 126 #[.agg t.cells.toArray] w fun r w' => r = .returned (.tuple #[.agg #[.int .u8 ((litV t).1 : Int), .int .u64 ((litV t).2 : Int)], .bool (litTk t).isSome]) ∧ Below w.heap.size w w' := by
  obtain ⟨K, T, p, b⟩ := t
  show Calls Tryz.prog 126 #[.agg (tok5 K ⟨T.toArray⟩ p (valT K) b).toArray] w _
  by_cases h0 : T = [116, 114, 117, 101]
  · have e : litTk ⟨K, T, p, b⟩ = some (2, 1) := by unfold litTk; rw [if_pos h0]
    have e2 : litV ⟨K, T, p, b⟩ = (2, 1) := by unfold litV; rw [e]; rfl
    rw [e, e2]
    clear e e2 
    subst h0
    generalize valT K = vt
    go_enter Tryz.func126, Tryz.ntmps126
    go_wp2_with (first
    | ((with_reducible show wpList _ _ _ _ _ _); refine wpList_box_at rfl 64 (.tmp 0) rfl (tok5 K ⟨#[116, 114, 117, 101]⟩ p vt b) rfl ?_; intro w1 hA1 hb1 hs1; clear hs1)
    | ((with_reducible show wpList _ _ _ _ _ _); refine wpList_alloc_at rfl 40 rfl (val2 0 0) 2 z32 ?_; intro w2 hA2 hb2 hs2; clear hs2; have hA1 := hA1.below hb2; obtain ⟨q0, q1, q2, q3, q4⟩ := tk5_cells hA1)
    | ((with_reducible show wpList _ _ _ _ _ _); refine wpList_build_at rfl 40 _ rfl (val2 2 1) (by kernel_rfl) ?_)
    | ((with_reducible show wpList _ _ _ _ _ _); refine wpList_store_at (P := Tryz.prog) rfl 40 (.tmp 2) (.tmp 8) rfl w1.heap.size (val2 2 1) rfl rfl 40 (val2 0 0) hA2 i32 rfl (one2 _ _) ?_; intro w9 hA9 hb9 hs9))
    refine bodyPost_ret (results_at_tmp rfl _ _ w1.heap.size 40 (val2 2 1) _ rfl hA9 Tryz.underlying40 rfl i32) rfl ?_
    exact ⟨rfl, hb9.below (hb1.trans (hb2.mono hb1.size)) hb1.size (Nat.le_trans hb1.size hb2.size)⟩
  by_cases h1 : T = [102, 97, 108, 115, 101]
  · have e : litTk ⟨K, T, p, b⟩ = some (2, 0) := by unfold litTk; rw [if_neg h0, if_pos h1]
    have e2 : litV ⟨K, T, p, b⟩ = (2, 0) := by unfold litV; rw [e]; rfl
    rw [e, e2]
    clear e e2 h0 
    subst h1
    generalize valT K = vt
    go_enter Tryz.func126, Tryz.ntmps126
    go_wp2_with (first
    | ((with_reducible show wpList _ _ _ _ _ _); refine wpList_box_at rfl 64 (.tmp 0) rfl (tok5 K ⟨#[102, 97, 108, 115, 101]⟩ p vt b) rfl ?_; intro w1 hA1 hb1 hs1; clear hs1)
    | ((with_reducible show wpList _ _ _ _ _ _); refine wpList_alloc_at rfl 40 rfl (val2 0 0) 2 z32 ?_; intro w2 hA2 hb2 hs2; clear hs2; have hA1 := hA1.below hb2; obtain ⟨q0, q1, q2, q3, q4⟩ := tk5_cells hA1)
    | ((with_reducible show wpList _ _ _ _ _ _); refine wpList_build_at rfl 40 _ rfl (val2 2 0) (by kernel_rfl) ?_)
    | ((with_reducible show wpList _ _ _ _ _ _); refine wpList_store_at (P := Tryz.prog) rfl 40 (.tmp 2) (.tmp 11) rfl w1.heap.size (val2 2 0) rfl rfl 40 (val2 0 0) hA2 i32 rfl (one2 _ _) ?_; intro w9 hA9 hb9 hs9))
    refine bodyPost_ret (results_at_tmp rfl _ _ w1.heap.size 40 (val2 2 0) _ rfl hA9 Tryz.underlying40 rfl i32) rfl ?_
    exact ⟨rfl, hb9.below (hb1.trans (hb2.mono hb1.size)) hb1.size (Nat.le_trans hb1.size hb2.size)⟩
  by_cases h2 : T = [110, 97, 110]
  · have e : litTk ⟨K, T, p, b⟩ = some (3, 9221120237041090560) := by unfold litTk; rw [if_neg h0, if_neg h1, if_pos h2]
    have e2 : litV ⟨K, T, p, b⟩ = (3, 9221120237041090560) := by unfold litV; rw [e]; rfl
    rw [e, e2]
    clear e e2 h0 h1 
    subst h2
    generalize valT K = vt
    go_enter Tryz.func126, Tryz.ntmps126
    go_wp2_with (first
    | ((with_reducible show wpList _ _ _ _ _ _); refine wpList_box_at rfl 64 (.tmp 0) rfl (tok5 K ⟨#[110, 97, 110]⟩ p vt b) rfl ?_; intro w1 hA1 hb1 hs1; clear hs1)
    | ((with_reducible show wpList _ _ _ _ _ _); refine wpList_alloc_at rfl 40 rfl (val2 0 0) 2 z32 ?_; intro w2 hA2 hb2 hs2; clear hs2; have hA1 := hA1.below hb2; obtain ⟨q0, q1, q2, q3, q4⟩ := tk5_cells hA1)
    | ((with_reducible show wpList _ _ _ _ _ _); refine wpList_build_at rfl 40 _ rfl (val2 3 9221120237041090560) (by kernel_rfl) ?_)
    | ((with_reducible show wpList _ _ _ _ _ _); refine wpList_store_at (P := Tryz.prog) rfl 40 (.tmp 2) (.tmp 14) rfl w1.heap.size (val2 3 9221120237041090560) rfl rfl 40 (val2 0 0) hA2 i32 rfl (one2 _ _) ?_; intro w9 hA9 hb9 hs9))
    refine bodyPost_ret (results_at_tmp rfl _ _ w1.heap.size 40 (val2 3 9221120237041090560) _ rfl hA9 Tryz.underlying40 rfl i32) rfl ?_
    exact ⟨rfl, hb9.below (hb1.trans (hb2.mono hb1.size)) hb1.size (Nat.le_trans hb1.size hb2.size)⟩
  by_cases h3 : T = [105, 110, 102]
  · have e : litTk ⟨K, T, p, b⟩ = some (3, 9218868437227405312) := by unfold litTk; rw [if_neg h0, if_neg h1, if_neg h2, if_pos h3]
    have e2 : litV ⟨K, T, p, b⟩ = (3, 9218868437227405312) := by unfold litV; rw [e]; rfl
    rw [e, e2]
    clear e e2 h0 h1 h2 
    subst h3
    generalize valT K = vt
    go_enter Tryz.func126, Tryz.ntmps126
    go_wp2_with (first
    | ((with_reducible show wpList _ _ _ _ _ _); refine wpList_box_at rfl 64 (.tmp 0) rfl (tok5 K ⟨#[105, 110, 102]⟩ p vt b) rfl ?_; intro w1 hA1 hb1 hs1; clear hs1)
    | ((with_reducible show wpList _ _ _ _ _ _); refine wpList_alloc_at rfl 40 rfl (val2 0 0) 2 z32 ?_; intro w2 hA2 hb2 hs2; clear hs2; have hA1 := hA1.below hb2; obtain ⟨q0, q1, q2, q3, q4⟩ := tk5_cells hA1)
    | ((with_reducible show wpList _ _ _ _ _ _); refine wpList_build_at rfl 40 _ rfl (val2 3 9218868437227405312) (by kernel_rfl) ?_)
    | ((with_reducible show wpList _ _ _ _ _ _); refine wpList_store_at (P := Tryz.prog) rfl 40 (.tmp 2) (.tmp 17) rfl w1.heap.size (val2 3 9218868437227405312) rfl rfl 40 (val2 0 0) hA2 i32 rfl (one2 _ _) ?_; intro w9 hA9 hb9 hs9))
    refine bodyPost_ret (results_at_tmp rfl _ _ w1.heap.size 40 (val2 3 9218868437227405312) _ rfl hA9 Tryz.underlying40 rfl i32) rfl ?_
    exact ⟨rfl, hb9.below (hb1.trans (hb2.mono hb1.size)) hb1.size (Nat.le_trans hb1.size hb2.size)⟩
  have n0 : (T == [116, 114, 117, 101]) = false := by rw [beq_eq_false_iff_ne]; exact h0
  have n1 : (T == [102, 97, 108, 115, 101]) = false := by rw [beq_eq_false_iff_ne]; exact h1
  have n2 : (T == [110, 97, 110]) = false := by rw [beq_eq_false_iff_ne]; exact h2
  have n3 : (T == [105, 110, 102]) = false := by rw [beq_eq_false_iff_ne]; exact h3
  have e : litTk ⟨K, T, p, b⟩ = if K = 2 ∨ K = 3 then some (valT K, b) else none := by unfold litTk; rw [if_neg h0, if_neg h1, if_neg h2, if_neg h3]
  have e2 : litV ⟨K, T, p, b⟩ = (valT K, b) := by unfold litV; rw [e]; split <;> rfl
  have e3 : (litTk ⟨K, T, p, b⟩).isSome = decide (K = 2 ∨ K = 3) := by rw [e]; split <;> simp_all
  rw [e3, e2]
  clear e e2 e3 h0 h1 h2 h3
  generalize valT K = vt
  by_cases k2 : K = 2
  · subst k2
    have e : decide ((2 : Nat) = 2 ∨ (2 : Nat) = 3) = true := by decide
    rw [e]
    go_enter Tryz.func126, Tryz.ntmps126
    go_wp2_with (first
      | ((with_reducible show wpList _ _ _ _ _ _); refine wpList_box_at rfl 64 (.tmp 0) rfl (tok5 2 ⟨T.toArray⟩ p vt b) rfl ?_; intro w1 hA1 hb1 hs1; clear hs1; have hA1' := hA1)
      | ((with_reducible show wpList _ _ _ _ _ _); refine wpList_alloc_at rfl 40 rfl (val2 0 0) 2 z32 ?_; intro w2 hA2 hb2 hs2; clear hs2; have hA1 := hA1.below hb2; obtain ⟨q0, q1, q2, q3, q4⟩ := tk5_cells hA1))
    have hS0 : At 64 w2.drew w.heap.size (tok5 2 ⟨T.toArray⟩ p vt b) := hA1.drew
    refine wp_region_held_drew (S := fun x => At 64 x w.heap.size (tok5 2 ⟨T.toArray⟩ p vt b)) (by kernel_rfl) hS0 (fun _ => ?_)
    refine wpAnyH_take (i := 0) (oi := { dst := some 18, op := .fieldAddr 64 (.tmp 1) 3, type := _, pos := _, after := _, guard := none }) (v := .pointer (some ⟨w.heap.size, 3, none⟩)) rfl (by kernel_rfl) (by kernel_rfl) (by kernel_rfl) (fun _ _ _ h => h) (Or.inl ⟨by rfl, ?_⟩) hS0 ?_
    · intro w hSw
      obtain ⟨q0, q1, q2, q3, q4⟩ := tk5_cells hSw
      go_simp
    simp only [Act.put, List.setIfInBounds_toArray, List.set_cons_zero, List.set_cons_succ]
    refine wpAnyH_take (i := 1) (oi := { dst := some 19, op := .load 40 (.tmp 18), type := _, pos := _, after := _, guard := none }) (v := .agg #[.int .u8 (vt : Int), .int .u64 (b : Int)]) rfl (by kernel_rfl) (by kernel_rfl) (by kernel_rfl) (fun _ _ _ h => h) (Or.inl ⟨by rfl, ?_⟩) hS0 ?_
    · intro w hSw
      obtain ⟨q0, q1, q2, q3, q4⟩ := tk5_cells hSw
      go_simp
    simp only [Act.put, List.setIfInBounds_toArray, List.set_cons_zero, List.set_cons_succ]
    refine wpAnyH_take (i := 2) (oi := { dst := some 20, op := .fieldAddr 64 (.tmp 1) 0, type := _, pos := _, after := _, guard := none }) (v := .pointer (some ⟨w.heap.size, 0, none⟩)) rfl (by kernel_rfl) (by kernel_rfl) (by kernel_rfl) (fun _ _ _ h => h) (Or.inl ⟨by rfl, ?_⟩) hS0 ?_
    · intro w hSw
      obtain ⟨q0, q1, q2, q3, q4⟩ := tk5_cells hSw
      go_simp
    simp only [Act.put, List.setIfInBounds_toArray, List.set_cons_zero, List.set_cons_succ]
    refine wpAnyH_take (i := 3) (oi := { dst := some 21, op := .load 3 (.tmp 20), type := _, pos := _, after := _, guard := none }) (v := .int .i64 ((2 : Nat) : Int)) rfl (by kernel_rfl) (by kernel_rfl) (by kernel_rfl) (fun _ _ _ h => h) (Or.inl ⟨by rfl, ?_⟩) hS0 ?_
    · intro w hSw
      obtain ⟨q0, q1, q2, q3, q4⟩ := tk5_cells hSw
      go_simp
    simp only [Act.put, List.setIfInBounds_toArray, List.set_cons_zero, List.set_cons_succ]
    refine wpAnyH_take (i := 4) (oi := { dst := some 22, op := .binOp .eql 3 (.tmp 21) (.const (.int .i64 2)) 3, type := _, pos := _, after := _, guard := none }) (v := .bool true) rfl (by kernel_rfl) (by kernel_rfl) (by kernel_rfl) (fun _ _ _ h => h) (Or.inl ⟨by rfl, ?_⟩) hS0 ?_
    · intro w hSw
      go_simp
    simp only [Act.put, List.setIfInBounds_toArray, List.set_cons_zero, List.set_cons_succ]
    refine wpAnyH_take (i := 5) (oi := { dst := some 23, op := .move (.tmp 22), type := _, pos := _, after := _, guard := none }) (v := .bool true) rfl (by kernel_rfl) (by kernel_rfl) (by kernel_rfl) (fun _ _ _ h => h) (Or.inl ⟨by rfl, ?_⟩) hS0 ?_
    · intro w hSw
      go_simp
    simp only [Act.put, List.setIfInBounds_toArray, List.set_cons_zero, List.set_cons_succ]
    refine wpAnyH_take (i := 6) (oi := { dst := some 24, op := .fieldAddr 64 (.tmp 1) 0, type := _, pos := _, after := _, guard := some (5, false) }) (v := undef) rfl (by kernel_rfl) (by kernel_rfl) (by kernel_rfl) (fun _ _ _ h => h) (Or.inr ⟨by rfl, rfl⟩) hS0 ?_
    simp only [Act.put, List.setIfInBounds_toArray, List.set_cons_zero, List.set_cons_succ]
    refine wpAnyH_take (i := 7) (oi := { dst := some 25, op := .load 3 (.tmp 24), type := _, pos := _, after := _, guard := some (5, false) }) (v := undef) rfl (by kernel_rfl) (by kernel_rfl) (by kernel_rfl) (fun _ _ _ h => h) (Or.inr ⟨by rfl, rfl⟩) hS0 ?_
    simp only [Act.put, List.setIfInBounds_toArray, List.set_cons_zero, List.set_cons_succ]
    refine wpAnyH_take (i := 8) (oi := { dst := some 26, op := .binOp .eql 3 (.tmp 25) (.const (.int .i64 3)) 3, type := _, pos := _, after := _, guard := some (5, false) }) (v := undef) rfl (by kernel_rfl) (by kernel_rfl) (by kernel_rfl) (fun _ _ _ h => h) (Or.inr ⟨by rfl, rfl⟩) hS0 ?_
    simp only [Act.put, List.setIfInBounds_toArray, List.set_cons_zero, List.set_cons_succ]
    refine wpAnyH_take (i := 9) (oi := { dst := some 27, op := .pick (.tmp 23) (.const (.bool true)) (.tmp 26), type := _, pos := _, after := _, guard := none }) (v := .bool true) rfl (by kernel_rfl) (by kernel_rfl) (by kernel_rfl) (fun _ _ _ h => h) (Or.inl ⟨by rfl, ?_⟩) hS0 ?_
    · intro w hSw
      go_simp
    simp only [Act.put, List.setIfInBounds_toArray, List.set_cons_zero, List.set_cons_succ]
    refine wpAnyH_ready (rs := [10]) (by kernel_rfl) (by simp) ?_
    refine AllReadyH.cons (o := { dst := none, op := .store 40 (.tmp 2) (.tmp 19), type := _, pos := _, after := _, guard := none }) rfl (fun K hK => ?_) AllReadyH.nil
    rw [if_pos (by rfl)]
    have hA2d : At 40 w2.drew w1.heap.size (val2 0 0) := hA2.drew
    refine wp_store_mid (P := Tryz.prog) 40 (.tmp 2) (.tmp 19) rfl w1.heap.size 0 (val2 vt b).toArray rfl rfl (hA2d.there 0 2 (by decide)) i32 (all_oneCell_toArray (one2 vt b)) ?_
    have l01 : w.heap.size < w1.heap.size := hA1'.lt
    have hbu : But w1.heap.size w2.drew (w2.drew.setCells w1.heap.size 0 (val2 vt b)) := ((But.refl _ _).setCell 0 _).setCell 1 _
    have hS1 := hbu.at hS0 (by omega)
    have hA9 : At 40 (w2.drew.setCells w1.heap.size 0 (val2 vt b)) w1.heap.size (val2 vt b) := (hA2d.set 0 _).set 1 _
    refine hK.out _ _ hS1 (fun _ => ?_)
    refine wpAnyH_take (i := 11) (oi := { dst := some 3, op := .assign (.tmp 27), type := _, pos := _, after := _, guard := none }) (v := .bool true) rfl (by kernel_rfl) (by kernel_rfl) (by kernel_rfl) (fun _ _ _ h => h) (Or.inl ⟨by rfl, ?_⟩) hS1 ?_
    · intro w hSw
      go_simp
    simp only [Act.put, List.setIfInBounds_toArray, List.set_cons_zero, List.set_cons_succ]
    refine wpAnyH_done (by kernel_rfl) ?_ _
    go_wp2
    refine bodyPost_ret (results_at_tmp rfl _ _ w1.heap.size 40 (val2 vt b) _ rfl hA9 Tryz.underlying40 rfl i32) rfl ?_
    have hdr : Below w.heap.size w w2.drew := Below.drew (hb1.trans (hb2.mono hb1.size))
    exact ⟨rfl, hbu.below hdr hb1.size hdr.size⟩
  by_cases k3 : K = 3
  · subst k3
    have e : decide ((3 : Nat) = 2 ∨ (3 : Nat) = 3) = true := by decide
    rw [e]
    go_enter Tryz.func126, Tryz.ntmps126
    go_wp2_with (first
      | ((with_reducible show wpList _ _ _ _ _ _); refine wpList_box_at rfl 64 (.tmp 0) rfl (tok5 3 ⟨T.toArray⟩ p vt b) rfl ?_; intro w1 hA1 hb1 hs1; clear hs1; have hA1' := hA1)
      | ((with_reducible show wpList _ _ _ _ _ _); refine wpList_alloc_at rfl 40 rfl (val2 0 0) 2 z32 ?_; intro w2 hA2 hb2 hs2; clear hs2; have hA1 := hA1.below hb2; obtain ⟨q0, q1, q2, q3, q4⟩ := tk5_cells hA1))
    have hS0 : At 64 w2.drew w.heap.size (tok5 3 ⟨T.toArray⟩ p vt b) := hA1.drew
    refine wp_region_held_drew (S := fun x => At 64 x w.heap.size (tok5 3 ⟨T.toArray⟩ p vt b)) (by kernel_rfl) hS0 (fun _ => ?_)
    refine wpAnyH_take (i := 0) (oi := { dst := some 18, op := .fieldAddr 64 (.tmp 1) 3, type := _, pos := _, after := _, guard := none }) (v := .pointer (some ⟨w.heap.size, 3, none⟩)) rfl (by kernel_rfl) (by kernel_rfl) (by kernel_rfl) (fun _ _ _ h => h) (Or.inl ⟨by rfl, ?_⟩) hS0 ?_
    · intro w hSw
      obtain ⟨q0, q1, q2, q3, q4⟩ := tk5_cells hSw
      go_simp
    simp only [Act.put, List.setIfInBounds_toArray, List.set_cons_zero, List.set_cons_succ]
    refine wpAnyH_take (i := 1) (oi := { dst := some 19, op := .load 40 (.tmp 18), type := _, pos := _, after := _, guard := none }) (v := .agg #[.int .u8 (vt : Int), .int .u64 (b : Int)]) rfl (by kernel_rfl) (by kernel_rfl) (by kernel_rfl) (fun _ _ _ h => h) (Or.inl ⟨by rfl, ?_⟩) hS0 ?_
    · intro w hSw
      obtain ⟨q0, q1, q2, q3, q4⟩ := tk5_cells hSw
      go_simp
    simp only [Act.put, List.setIfInBounds_toArray, List.set_cons_zero, List.set_cons_succ]
    refine wpAnyH_take (i := 2) (oi := { dst := some 20, op := .fieldAddr 64 (.tmp 1) 0, type := _, pos := _, after := _, guard := none }) (v := .pointer (some ⟨w.heap.size, 0, none⟩)) rfl (by kernel_rfl) (by kernel_rfl) (by kernel_rfl) (fun _ _ _ h => h) (Or.inl ⟨by rfl, ?_⟩) hS0 ?_
    · intro w hSw
      obtain ⟨q0, q1, q2, q3, q4⟩ := tk5_cells hSw
      go_simp
    simp only [Act.put, List.setIfInBounds_toArray, List.set_cons_zero, List.set_cons_succ]
    refine wpAnyH_take (i := 3) (oi := { dst := some 21, op := .load 3 (.tmp 20), type := _, pos := _, after := _, guard := none }) (v := .int .i64 ((3 : Nat) : Int)) rfl (by kernel_rfl) (by kernel_rfl) (by kernel_rfl) (fun _ _ _ h => h) (Or.inl ⟨by rfl, ?_⟩) hS0 ?_
    · intro w hSw
      obtain ⟨q0, q1, q2, q3, q4⟩ := tk5_cells hSw
      go_simp
    simp only [Act.put, List.setIfInBounds_toArray, List.set_cons_zero, List.set_cons_succ]
    refine wpAnyH_take (i := 4) (oi := { dst := some 22, op := .binOp .eql 3 (.tmp 21) (.const (.int .i64 2)) 3, type := _, pos := _, after := _, guard := none }) (v := .bool false) rfl (by kernel_rfl) (by kernel_rfl) (by kernel_rfl) (fun _ _ _ h => h) (Or.inl ⟨by rfl, ?_⟩) hS0 ?_
    · intro w hSw
      go_simp
    simp only [Act.put, List.setIfInBounds_toArray, List.set_cons_zero, List.set_cons_succ]
    refine wpAnyH_take (i := 5) (oi := { dst := some 23, op := .move (.tmp 22), type := _, pos := _, after := _, guard := none }) (v := .bool false) rfl (by kernel_rfl) (by kernel_rfl) (by kernel_rfl) (fun _ _ _ h => h) (Or.inl ⟨by rfl, ?_⟩) hS0 ?_
    · intro w hSw
      go_simp
    simp only [Act.put, List.setIfInBounds_toArray, List.set_cons_zero, List.set_cons_succ]
    refine wpAnyH_take (i := 6) (oi := { dst := some 24, op := .fieldAddr 64 (.tmp 1) 0, type := _, pos := _, after := _, guard := some (5, false) }) (v := .pointer (some ⟨w.heap.size, 0, none⟩)) rfl (by kernel_rfl) (by kernel_rfl) (by kernel_rfl) (fun _ _ _ h => h) (Or.inl ⟨by rfl, ?_⟩) hS0 ?_
    · intro w hSw
      obtain ⟨q0, q1, q2, q3, q4⟩ := tk5_cells hSw
      go_simp
    simp only [Act.put, List.setIfInBounds_toArray, List.set_cons_zero, List.set_cons_succ]
    refine wpAnyH_take (i := 7) (oi := { dst := some 25, op := .load 3 (.tmp 24), type := _, pos := _, after := _, guard := some (5, false) }) (v := .int .i64 ((3 : Nat) : Int)) rfl (by kernel_rfl) (by kernel_rfl) (by kernel_rfl) (fun _ _ _ h => h) (Or.inl ⟨by rfl, ?_⟩) hS0 ?_
    · intro w hSw
      obtain ⟨q0, q1, q2, q3, q4⟩ := tk5_cells hSw
      go_simp
    simp only [Act.put, List.setIfInBounds_toArray, List.set_cons_zero, List.set_cons_succ]
    refine wpAnyH_take (i := 8) (oi := { dst := some 26, op := .binOp .eql 3 (.tmp 25) (.const (.int .i64 3)) 3, type := _, pos := _, after := _, guard := some (5, false) }) (v := .bool true) rfl (by kernel_rfl) (by kernel_rfl) (by kernel_rfl) (fun _ _ _ h => h) (Or.inl ⟨by rfl, ?_⟩) hS0 ?_
    · intro w hSw
      go_simp
    simp only [Act.put, List.setIfInBounds_toArray, List.set_cons_zero, List.set_cons_succ]
    refine wpAnyH_take (i := 9) (oi := { dst := some 27, op := .pick (.tmp 23) (.const (.bool true)) (.tmp 26), type := _, pos := _, after := _, guard := none }) (v := .bool true) rfl (by kernel_rfl) (by kernel_rfl) (by kernel_rfl) (fun _ _ _ h => h) (Or.inl ⟨by rfl, ?_⟩) hS0 ?_
    · intro w hSw
      go_simp
    simp only [Act.put, List.setIfInBounds_toArray, List.set_cons_zero, List.set_cons_succ]
    refine wpAnyH_ready (rs := [10]) (by kernel_rfl) (by simp) ?_
    refine AllReadyH.cons (o := { dst := none, op := .store 40 (.tmp 2) (.tmp 19), type := _, pos := _, after := _, guard := none }) rfl (fun K hK => ?_) AllReadyH.nil
    rw [if_pos (by rfl)]
    have hA2d : At 40 w2.drew w1.heap.size (val2 0 0) := hA2.drew
    refine wp_store_mid (P := Tryz.prog) 40 (.tmp 2) (.tmp 19) rfl w1.heap.size 0 (val2 vt b).toArray rfl rfl (hA2d.there 0 2 (by decide)) i32 (all_oneCell_toArray (one2 vt b)) ?_
    have l01 : w.heap.size < w1.heap.size := hA1'.lt
    have hbu : But w1.heap.size w2.drew (w2.drew.setCells w1.heap.size 0 (val2 vt b)) := ((But.refl _ _).setCell 0 _).setCell 1 _
    have hS1 := hbu.at hS0 (by omega)
    have hA9 : At 40 (w2.drew.setCells w1.heap.size 0 (val2 vt b)) w1.heap.size (val2 vt b) := (hA2d.set 0 _).set 1 _
    refine hK.out _ _ hS1 (fun _ => ?_)
    refine wpAnyH_take (i := 11) (oi := { dst := some 3, op := .assign (.tmp 27), type := _, pos := _, after := _, guard := none }) (v := .bool true) rfl (by kernel_rfl) (by kernel_rfl) (by kernel_rfl) (fun _ _ _ h => h) (Or.inl ⟨by rfl, ?_⟩) hS1 ?_
    · intro w hSw
      go_simp
    simp only [Act.put, List.setIfInBounds_toArray, List.set_cons_zero, List.set_cons_succ]
    refine wpAnyH_done (by kernel_rfl) ?_ _
    go_wp2
    refine bodyPost_ret (results_at_tmp rfl _ _ w1.heap.size 40 (val2 vt b) _ rfl hA9 Tryz.underlying40 rfl i32) rfl ?_
    have hdr : Below w.heap.size w w2.drew := Below.drew (hb1.trans (hb2.mono hb1.size))
    exact ⟨rfl, hbu.below hdr hb1.size hdr.size⟩
  have e : decide (K = 2 ∨ K = 3) = false := decide_eq_false (by omega)
  rw [e]
  have k2' : (K : Int) ≠ 2 := by omega
  have k3' : (K : Int) ≠ 3 := by omega
  clear e
  go_enter Tryz.func126, Tryz.ntmps126
  go_wp2_with (first
    | ((with_reducible show wpList _ _ _ _ _ _); refine wpList_box_at rfl 64 (.tmp 0) rfl (tok5 K ⟨T.toArray⟩ p vt b) rfl ?_; intro w1 hA1 hb1 hs1; clear hs1; have hA1' := hA1)
    | ((with_reducible show wpList _ _ _ _ _ _); refine wpList_alloc_at rfl 40 rfl (val2 0 0) 2 z32 ?_; intro w2 hA2 hb2 hs2; clear hs2; have hA1 := hA1.below hb2; obtain ⟨q0, q1, q2, q3, q4⟩ := tk5_cells hA1))
  have hS0 : At 64 w2.drew w.heap.size (tok5 K ⟨T.toArray⟩ p vt b) := hA1.drew
  refine wp_region_held_drew (S := fun x => At 64 x w.heap.size (tok5 K ⟨T.toArray⟩ p vt b)) (by kernel_rfl) hS0 (fun _ => ?_)
  refine wpAnyH_take (i := 0) (oi := { dst := some 18, op := .fieldAddr 64 (.tmp 1) 3, type := _, pos := _, after := _, guard := none }) (v := .pointer (some ⟨w.heap.size, 3, none⟩)) rfl (by kernel_rfl) (by kernel_rfl) (by kernel_rfl) (fun _ _ _ h => h) (Or.inl ⟨by rfl, ?_⟩) hS0 ?_
  · intro w hSw
    obtain ⟨q0, q1, q2, q3, q4⟩ := tk5_cells hSw
    go_simp
  simp only [Act.put, List.setIfInBounds_toArray, List.set_cons_zero, List.set_cons_succ]
  refine wpAnyH_take (i := 1) (oi := { dst := some 19, op := .load 40 (.tmp 18), type := _, pos := _, after := _, guard := none }) (v := .agg #[.int .u8 (vt : Int), .int .u64 (b : Int)]) rfl (by kernel_rfl) (by kernel_rfl) (by kernel_rfl) (fun _ _ _ h => h) (Or.inl ⟨by rfl, ?_⟩) hS0 ?_
  · intro w hSw
    obtain ⟨q0, q1, q2, q3, q4⟩ := tk5_cells hSw
    go_simp
  simp only [Act.put, List.setIfInBounds_toArray, List.set_cons_zero, List.set_cons_succ]
  refine wpAnyH_take (i := 2) (oi := { dst := some 20, op := .fieldAddr 64 (.tmp 1) 0, type := _, pos := _, after := _, guard := none }) (v := .pointer (some ⟨w.heap.size, 0, none⟩)) rfl (by kernel_rfl) (by kernel_rfl) (by kernel_rfl) (fun _ _ _ h => h) (Or.inl ⟨by rfl, ?_⟩) hS0 ?_
  · intro w hSw
    obtain ⟨q0, q1, q2, q3, q4⟩ := tk5_cells hSw
    go_simp
  simp only [Act.put, List.setIfInBounds_toArray, List.set_cons_zero, List.set_cons_succ]
  refine wpAnyH_take (i := 3) (oi := { dst := some 21, op := .load 3 (.tmp 20), type := _, pos := _, after := _, guard := none }) (v := .int .i64 (K : Int)) rfl (by kernel_rfl) (by kernel_rfl) (by kernel_rfl) (fun _ _ _ h => h) (Or.inl ⟨by rfl, ?_⟩) hS0 ?_
  · intro w hSw
    obtain ⟨q0, q1, q2, q3, q4⟩ := tk5_cells hSw
    go_simp
  simp only [Act.put, List.setIfInBounds_toArray, List.set_cons_zero, List.set_cons_succ]
  refine wpAnyH_take (i := 4) (oi := { dst := some 22, op := .binOp .eql 3 (.tmp 21) (.const (.int .i64 2)) 3, type := _, pos := _, after := _, guard := none }) (v := .bool false) rfl (by kernel_rfl) (by kernel_rfl) (by kernel_rfl) (fun _ _ _ h => h) (Or.inl ⟨by rfl, ?_⟩) hS0 ?_
  · intro w hSw
    go_simp
  simp only [Act.put, List.setIfInBounds_toArray, List.set_cons_zero, List.set_cons_succ]
  refine wpAnyH_take (i := 5) (oi := { dst := some 23, op := .move (.tmp 22), type := _, pos := _, after := _, guard := none }) (v := .bool false) rfl (by kernel_rfl) (by kernel_rfl) (by kernel_rfl) (fun _ _ _ h => h) (Or.inl ⟨by rfl, ?_⟩) hS0 ?_
  · intro w hSw
    go_simp
  simp only [Act.put, List.setIfInBounds_toArray, List.set_cons_zero, List.set_cons_succ]
  refine wpAnyH_take (i := 6) (oi := { dst := some 24, op := .fieldAddr 64 (.tmp 1) 0, type := _, pos := _, after := _, guard := some (5, false) }) (v := .pointer (some ⟨w.heap.size, 0, none⟩)) rfl (by kernel_rfl) (by kernel_rfl) (by kernel_rfl) (fun _ _ _ h => h) (Or.inl ⟨by rfl, ?_⟩) hS0 ?_
  · intro w hSw
    obtain ⟨q0, q1, q2, q3, q4⟩ := tk5_cells hSw
    go_simp
  simp only [Act.put, List.setIfInBounds_toArray, List.set_cons_zero, List.set_cons_succ]
  refine wpAnyH_take (i := 7) (oi := { dst := some 25, op := .load 3 (.tmp 24), type := _, pos := _, after := _, guard := some (5, false) }) (v := .int .i64 (K : Int)) rfl (by kernel_rfl) (by kernel_rfl) (by kernel_rfl) (fun _ _ _ h => h) (Or.inl ⟨by rfl, ?_⟩) hS0 ?_
  · intro w hSw
    obtain ⟨q0, q1, q2, q3, q4⟩ := tk5_cells hSw
    go_simp
  simp only [Act.put, List.setIfInBounds_toArray, List.set_cons_zero, List.set_cons_succ]
  refine wpAnyH_take (i := 8) (oi := { dst := some 26, op := .binOp .eql 3 (.tmp 25) (.const (.int .i64 3)) 3, type := _, pos := _, after := _, guard := some (5, false) }) (v := .bool false) rfl (by kernel_rfl) (by kernel_rfl) (by kernel_rfl) (fun _ _ _ h => h) (Or.inl ⟨by rfl, ?_⟩) hS0 ?_
  · intro w hSw
    go_simp
  simp only [Act.put, List.setIfInBounds_toArray, List.set_cons_zero, List.set_cons_succ]
  refine wpAnyH_take (i := 9) (oi := { dst := some 27, op := .pick (.tmp 23) (.const (.bool true)) (.tmp 26), type := _, pos := _, after := _, guard := none }) (v := .bool false) rfl (by kernel_rfl) (by kernel_rfl) (by kernel_rfl) (fun _ _ _ h => h) (Or.inl ⟨by rfl, ?_⟩) hS0 ?_
  · intro w hSw
    go_simp
  simp only [Act.put, List.setIfInBounds_toArray, List.set_cons_zero, List.set_cons_succ]
  refine wpAnyH_ready (rs := [10]) (by kernel_rfl) (by simp) ?_
  refine AllReadyH.cons (o := { dst := none, op := .store 40 (.tmp 2) (.tmp 19), type := _, pos := _, after := _, guard := none }) rfl (fun K hK => ?_) AllReadyH.nil
  rw [if_pos (by rfl)]
  have hA2d : At 40 w2.drew w1.heap.size (val2 0 0) := hA2.drew
  refine wp_store_mid (P := Tryz.prog) 40 (.tmp 2) (.tmp 19) rfl w1.heap.size 0 (val2 vt b).toArray rfl rfl (hA2d.there 0 2 (by decide)) i32 (all_oneCell_toArray (one2 vt b)) ?_
  have l01 : w.heap.size < w1.heap.size := hA1'.lt
  have hbu : But w1.heap.size w2.drew (w2.drew.setCells w1.heap.size 0 (val2 vt b)) := ((But.refl _ _).setCell 0 _).setCell 1 _
  have hS1 := hbu.at hS0 (by omega)
  have hA9 : At 40 (w2.drew.setCells w1.heap.size 0 (val2 vt b)) w1.heap.size (val2 vt b) := (hA2d.set 0 _).set 1 _
  refine hK.out _ _ hS1 (fun _ => ?_)
  refine wpAnyH_take (i := 11) (oi := { dst := some 3, op := .assign (.tmp 27), type := _, pos := _, after := _, guard := none }) (v := .bool false) rfl (by kernel_rfl) (by kernel_rfl) (by kernel_rfl) (fun _ _ _ h => h) (Or.inl ⟨by rfl, ?_⟩) hS1 ?_
  · intro w hSw
    go_simp
  simp only [Act.put, List.setIfInBounds_toArray, List.set_cons_zero, List.set_cons_succ]
  refine wpAnyH_done (by kernel_rfl) ?_ _
  go_wp2
  refine bodyPost_ret (results_at_tmp rfl _ _ w1.heap.size 40 (val2 vt b) _ rfl hA9 Tryz.underlying40 rfl i32) rfl ?_
  have hdr : Below w.heap.size w w2.drew := Below.drew (hb1.trans (hb2.mono hb1.size))
  exact ⟨rfl, hbu.below hdr hb1.size hdr.size⟩

end Go.Proofs.YtjgggmjjikopeaaGreatDoor
