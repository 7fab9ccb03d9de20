/- The document's own sign: the longest sign that begins at a place. -/
import Derived.Test.YtinofdmdfhklpaaDoorRefWhole
namespace Go.Proofs.YtinofdmdfhklpaaDoor
open Go.RowKit
set_option linter.unusedVariables false

/-- The signs, those of two bytes first. -/
def sgl : List (List UInt8) := [[61, 61], [33, 61], [60, 61], [62, 61], [38, 38], [124, 124], [59], [123], [125], [40], [41], [61], [60], [62], [43], [45], [42], [47], [37], [33]]

/-- The first of these, from one on, with which a text begins. -/
def sgFrom (i : Nat) (d : List UInt8) : List UInt8 := ((sgl.drop i).find? (fun t => t.isPrefixOf d)).getD []

theorem sgFrom_yes (i : Nat) (d : List UInt8) (hi : i < 20) (h : (sgl.getD i []).isPrefixOf d = true) : sgFrom i d = sgl.getD i [] := by
  have h2 : i < sgl.length := hi
  have e : sgl.getD i [] = sgl[i] := by simp [List.getD, h2]
  rw [e] at h ⊢
  unfold sgFrom
  rw [List.drop_eq_getElem_cons h2]
  simp only [List.find?_cons, h]
  rfl

theorem sgFrom_no (i : Nat) (d : List UInt8) (hi : i < 20) (h : (sgl.getD i []).isPrefixOf d = false) : sgFrom i d = sgFrom (i + 1) d := by
  have h2 : i < sgl.length := hi
  have e : sgl.getD i [] = sgl[i] := by simp [List.getD, h2]
  rw [e] at h
  unfold sgFrom
  rw [List.drop_eq_getElem_cons h2]
  simp only [List.find?_cons, h]

theorem sgl_len : ∀ i, i < 20 → 1 ≤ (sgl.getD i []).length ∧ (sgl.getD i []).length ≤ 2 := by decide

theorem pre_iff (s : ByteArray) (k : Nat) (t : List UInt8) : t.isPrefixOf ((bytes s).drop k) = true ↔ k + t.length ≤ max k s.size ∧ bytes (s.extract k (k + t.length)) = t := by
  rw [List.isPrefixOf_iff_prefix, bytes_extract, Nat.add_sub_cancel_left, List.prefix_iff_eq_take]
  constructor
  · intro h
    have hl := congrArg List.length h
    rw [List.length_take, List.length_drop, bytes_length] at hl
    exact ⟨by omega, h.symm⟩
  · rintro ⟨_, h⟩; exact h.symm

/-- The signs of two bytes, and of one. -/
def sg2 : List (List UInt8) := [[61, 61], [33, 61], [60, 61], [62, 61], [38, 38], [124, 124]]
def sg1 : List (List UInt8) := [[59], [123], [125], [40], [41], [61], [60], [62], [43], [45], [42], [47], [37], [33]]

theorem sg_mem (l : List UInt8) : l ∈ signs ↔ l ∈ sg2 ∨ l ∈ sg1 := by
  simp only [signs, sg2, sg1, List.mem_cons, List.not_mem_nil, or_false]
  constructor
  · rintro (h | h | h | h | h | h | h | h | h | h | h | h | h | h | h | h | h | h | h | h) <;> simp [h]
  · rintro ((h | h | h | h | h | h) | (h | h | h | h | h | h | h | h | h | h | h | h | h | h)) <;> simp [h]

theorem sg2_len : ∀ t ∈ sg2, t.length = 2 := by decide
theorem sg1_len : ∀ t ∈ sg1, t.length = 1 := by decide

theorem find_eq (L : List (List UInt8)) (p : List UInt8 → Bool) (x : List UInt8) (h : ∀ t ∈ L, p t = decide (t = x)) : L.find? p = if x ∈ L then some x else none := by
  induction L with
  | nil => simp
  | cons t r ih =>
    have h1 := h t List.mem_cons_self
    have h2 := ih fun u hu => h u (List.mem_cons_of_mem _ hu)
    by_cases e : t = x
    · subst e
      rw [List.find?_cons_of_pos (by rw [h1]; simp)]
      simp
    · rw [List.find?_cons_of_neg (by rw [h1]; simp [e]), h2]
      simp only [List.mem_cons, show ¬ x = t from fun e2 => e e2.symm, false_or]

theorem pre_len (t d : List UInt8) (n : Nat) (h : t.length = n) : t.isPrefixOf d = decide (t = d.take n) := by
  subst h
  rw [Bool.eq_iff_iff, List.isPrefixOf_iff_prefix, List.prefix_iff_eq_take, decide_eq_true_eq]

/-- What the document's sign tells is what the code takes for one. -/
theorem sgFrom_zero (c : UInt8) (r : List UInt8) : sgFrom 0 (c :: r) = if isSg ((c :: r).take (sgN c r + 1)) then (c :: r).take (sgN c r + 1) else [] := by
  have e : sgFrom 0 (c :: r) = ((sg2 ++ sg1).find? (fun t => t.isPrefixOf (c :: r))).getD [] := rfl
  rw [e, List.find?_append, find_eq sg2 _ ((c :: r).take 2) (fun t ht => pre_len t _ 2 (sg2_len t ht)), find_eq sg1 _ ((c :: r).take 1) (fun t ht => pre_len t _ 1 (sg1_len t ht))]
  by_cases h2 : (c :: r).take 2 ∈ sg2
  · have hl := sg2_len _ h2
    cases r with
    | nil => simp at hl
    | cons d q =>
      have hsg : isSg [c, d] = true := by
        simp only [isSg, decide_eq_true_eq]
        exact (sg_mem _).2 (.inl h2)
      simp only [sgN, hsg, if_true, if_pos h2]
      rw [show (c :: d :: q).take (1 + 1) = [c, d] from rfl, hsg]
      rfl
  · have hz : sgN c r = 0 := by
      cases r with
      | nil => rfl
      | cons d q =>
        simp only [sgN]
        rw [if_neg]
        simp only [isSg, decide_eq_true_eq]
        intro hm
        rcases (sg_mem _).1 hm with h | h
        · exact h2 h
        · have := sg1_len _ h; simp at this
    rw [hz, if_neg h2]
    have e1 : (c :: r).take (0 + 1) = [c] := by simp
    rw [e1]
    have hs : isSg [c] = decide ([c] ∈ sg1) := by
      simp only [isSg]
      congr 1
      rw [sg_mem, eq_iff_iff]
      constructor
      · rintro (h | h)
        · have := sg2_len _ h; simp at this
        · exact h
      · exact .inr
    rw [hs]
    by_cases h1 : [c] ∈ sg1
    · simp [h1]
    · simp [h1]

/-- The cells of the signs. -/
def sglCells : List Value := sgl.map fun x => .string ⟨x.toArray⟩

theorem i9' : (Tryd.prog.info? 9).map (fun i => (i.zero, i.size, i.bytes)) = some (some (.string ⟨#[]⟩), 1, 16) := by kernel_rfl

/-- Texts are laid as a row. -/
theorem wpList_strs {ops : Array Oper} {rest : List Oper} {o : Oper} {a : Act} {w : World} {Q : Exit → Act → World → Prop} (hgd : o.guard = none) (n : Nat) (parts : Array (Nat × Operand)) (ho : o.op = .buildSlice 37 n parts) (cs : List Value) (h0 : 0 < n) (hn : n ≤ 1000)
    (hf : Instr.fill (fun i => some (i * 1, 1)) ((Array.range (n * 1)).map ((Value.string ⟨#[]⟩).cells[· % (Value.string ⟨#[]⟩).cells.size]!)) (parts.map fun (i, x) => (i, a.eval x)).toList = some cs.toArray)
    (h : ∀ w', At 9 w' w.heap.size cs → Below w.heap.size w w' → w'.heap.size = w.heap.size + 1 → wpList Tryd.prog ops Q rest (a.put o.dst (.slice (some ⟨w.heap.size, 0, none⟩) n n)) w') :
    wpList Tryd.prog ops Q (o :: rest) a w := by
  obtain ⟨ie, hi, hz0, hz1, hz2⟩ := info_parts i9'
  refine wpList_buildSlice hgd 37 9 n parts ho cs.toArray ie (.string ⟨#[]⟩) Tryd.underlying37 hi hz0 (by rw [hz1]; omega) (by rw [hz1]; omega) ?_ ?_
  · rw [hz1]; exact hf
  · exact h _ (_root_.Go.heap_alloc_new w _) ((Below.refl _ w).alloc (Nat.le_refl _) _) (by show (w.heap.push _).size = _; simp)

theorem sglCell (w : World) (g i : Nat) (hi : i < 20) (hA : At 9 w g sglCells) : w.cell? ⟨g, i, none⟩ = some (.string ⟨(sgl.getD i []).toArray⟩) := by
  have h2 : i < sgl.length := hi
  rw [hA.cell]
  simp [sglCells, List.getD, h2]

set_option maxRecDepth 100000 in
set_option maxHeartbeats 800000 in
theorem sign_any (s : ByteArray) (k : Nat) (w : World) (hk : k < s.size) (hs : s.size ≤ 1099511627776) :
    Calls Tryd.prog 29 #[.string s, .int .i64 (k : Int)] w fun e w' => e = .returned (.string ⟨(sgFrom 0 ((bytes s).drop k)).toArray⟩) ∧ Below w.heap.size w w' := by
  obtain ⟨B, hB⟩ : ∃ B, Hid (B = sgFrom 0 ((bytes s).drop k)) := ⟨_, (rfl : sgFrom 0 ((bytes s).drop k) = _)⟩
  rw [← hB.out]
  go_enter Tryd.func29, Tryd.ntmps29
  go_wp2_with (first | ((with_reducible show wpList _ _ _ _ _ _); refine wpList_strs rfl 20 _ rfl sglCells (by decide) (by decide) (by kernel_rfl) ?_; intro w1 hA1 hb1 hs1))
  have HC : Hid (∀ i, i < 20 → w1.cell? ⟨w.heap.size, i, none⟩ = some (.string ⟨(sgl.getD i []).toArray⟩)) := fun i hi => sglCell w1 _ i hi hA1
  clear hA1
  go_loopw [6] (fun j wr => ∃ i : Nat, j = .int .i64 (i : Int) ∧ i ≤ 20 ∧ Hid (sgFrom i ((bytes s).drop k) = B) ∧ ∃ q, wr = w1.drewN q) (fun j _ => 20 - (intOf j).toNat)
  case atStart => exact ⟨0, rfl, by omega, hB.out.symm, 0, rfl⟩
  case round =>
    obtain ⟨i, rfl, hi, hr, q, rfl⟩ := hrel
    by_cases hc : i < 20
    · have hcell := HC.out i hc
      have hlen := sgl_len i hc
      have hpre := pre_iff s k (sgl.getD i [])
      have hyes := sgFrom_yes i ((bytes s).drop k) hc
      have hno := sgFrom_no i ((bytes s).drop k) hc
      obtain ⟨t, ht⟩ : ∃ t, Hid (t = sgl.getD i []) := ⟨_, (rfl : sgl.getD i [] = _)⟩
      rw [← ht.out] at hcell hlen hpre hyes hno
      obtain ⟨W, hW⟩ : ∃ W : ByteArray, Hid (W = ⟨t.toArray⟩) := ⟨_, (rfl : (⟨t.toArray⟩ : ByteArray) = _)⟩
      obtain ⟨m, hm⟩ : ∃ m, Hid (m = t.length) := ⟨_, (rfl : t.length = _)⟩
      have hWz : W.size = m := by rw [hW.out, hm.out]; simp [ByteArray.size]
      rw [← hm.out] at hlen hpre
      have hw1 : IntKind.i64.wrap ((k : Int) + (m : Int)) = (k : Int) + (m : Int) := by rw [IntKind.wrap_i64]; omega
      rw [← hW.out] at hcell
      by_cases hp : t.isPrefixOf ((bytes s).drop k) = true
      · obtain ⟨h1, h2⟩ := hpre.1 hp
        have hle : k + m ≤ s.size := by omega
        have hdec : ((k : Int) + (m : Int) ≤ (s.size : Int)) := by omega
        have heq : ((s.extract k (k + m)).toList == W.toList) = true := by
          rw [toList_bytes, toList_bytes, h2, hW.out]; simp [bytes]
        have hfin : Hid (B = t) := by show _ = _; rw [← hr.out]; exact hyes hp
        clear hp hpre hyes hno h1 h2 hlen
        go_wp2_with fail
        go_quiet (fail)
        go_wp2
        go_ret
        exact ⟨by rw [hfin.out, ← hW.out]; rfl, ⟨hb1.os, hb1.tape, hb1.output, hb1.size, hb1.block⟩⟩
      · have hpf : t.isPrefixOf ((bytes s).drop k) = false := Bool.eq_false_iff.2 hp
        have hr' : Hid (sgFrom (i + 1) ((bytes s).drop k) = B) := by show _ = _; rw [← hr.out]; exact (hno hpf).symm
        by_cases hle : k + m ≤ s.size
        · have heq : ((s.extract k (k + m)).toList == W.toList) = false := by
            rw [toList_bytes, toList_bytes, beq_eq_false_iff_ne]
            intro h0
            refine hp (hpre.2 ⟨by omega, ?_⟩)
            rw [h0, hW.out]; simp [bytes]
          have hdec : ((k : Int) + (m : Int) ≤ (s.size : Int)) := by omega
          clear hp hpre hyes hno hlen hpf hr
          go_wp2_with fail
          go_quiet (fail)
          go_wp2
          go_roundw
          case rel => exact ⟨i + 1, by go_num, by omega, hr', _, rfl⟩
          case measure => simp [intOf]; omega
        · have hdec : decide ((k : Int) + (m : Int) ≤ (s.size : Int)) = false := by simp; omega
          clear hp hpre hyes hno hlen hpf hr
          go_wp2_with fail
          go_quiet (fail)
          go_wp2
          go_roundw
          case rel => exact ⟨i + 1, by go_num, by omega, hr', _, rfl⟩
          case measure => simp [intOf]; omega
    · have hfin : Hid (B = []) := by
        show _ = _
        rw [← hr.out, show i = 20 by omega]
        rfl
      go_wp2
      go_ret
      exact ⟨by rw [hfin.out]; rfl, ⟨hb1.os, hb1.tape, hb1.output, hb1.size, hb1.block⟩⟩
end Go.Proofs.YtinofdmdfhklpaaDoor
