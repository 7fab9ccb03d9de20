/- Joined texts of the proof. -/
import Derived.Test.YtjgggmjjikopeaaGreatDoorJ4

/- tree.mayExpr. -/
namespace Go.Proofs.YtjgggmjjikopeaaGreatDoor
open Go.RowKit
set_option linter.unusedVariables false

def ex5 (op t b : Nat) (nm : ByteArray) (sl : Value) : List Value := [.int .u8 (op : Int), .int .u8 (t : Int), .int .u64 (b : Int), .string nm, sl]

theorem below_drN {B : Nat} {w w' : World} (h : Below B w w') (n : Nat) : Below B w (w'.drewN n) := ⟨h.os, h.tape, h.output, h.size, h.block⟩

theorem eq26 (t b : Nat) (u : World) : (Op.equalIn 10000 40 (.agg #[.int .u8 (t : Int), .int .u64 (b : Int)]) (.agg #[.int .u8 0, .int .u64 0])).run Tryz.prog u = .ok (decide (t = 0 ∧ b = 0)) u := by
  by_cases h1 : t = 0
  · subst h1
    by_cases h2 : b = 0
    · subst h2
      go_simp
    · have e2 : ((b : Int) == 0) = false := by rw [beq_eq_false_iff_ne]; omega
      go_simp
  · have e1 : ((t : Int) == 0) = false := by rw [beq_eq_false_iff_ne]; omega
    go_simp

theorem hidU {p : Prop} (h : p) : Hid p := h

theorem emp (nm : ByteArray) : nm.toList.isEmpty = decide (nm.data.toList = []) := by
  by_cases h : nm.size = 0
  · rw [is_empty h]
    have : nm.data.toList = [] := List.length_eq_zero_iff.1 (by rw [Array.length_toList]; exact h)
    simp [this]
  · rw [not_empty (Nat.pos_of_ne_zero h)]
    have : ¬ nm.data.toList = [] := fun he => h (by have := congrArg List.length he; rw [Array.length_toList] at this; exact this)
    simp [this]

set_option maxRecDepth 100000 in
set_option maxHeartbeats 3200000 in
theorem mayExpr_any (h : Nat) : ∀ (e : ET) (w : World) (B : Nat), h ≤ 32 → e.In B w → B ≤ w.heap.size → Tab w → gB ≤ w.heap.size →
    Calls Tryz.prog 105 #[.agg e.cells.toArray, .int .i64 (h : Int)] w fun r w' => r = .returned (.bool (mayE h e.ex)) ∧ Below w.heap.size w w' := by
  induction h with
  | zero =>
    rintro ⟨op, t, b, nm, a, c, ks⟩ w B hh hin hBw hT h16
    have hm : mayE 0 (ET.mk op t b nm a c ks).ex = false := rfl
    rw [hm]
    clear hm hin
    go_enter Tryz.func105, Tryz.ntmps105
    go_wp2_with (first | ((with_reducible show wpList _ _ _ _ _ _); refine wpList_box_at rfl 43 (.tmp 0) rfl (ex5 op t b nm (.slice a ks.length c)) rfl ?_; intro w1 hA1 hb1 hs1))
    go_quiet (fail)
    go_wp2
    go_ret
    exact ⟨rfl, below_drN hb1 _⟩
  | succ h ih =>
    rintro ⟨op, t, b, nm, a, c, ks⟩ w B hh hin hBw hT h16
    unfold ET.In at hin
    obtain ⟨h1, h2, h3, h4, h5, h6⟩ := hin
    have hO := operands_any op
    obtain ⟨n, hn⟩ : ∃ n, Hid (n = ks.length) := ⟨_, (rfl : ks.length = _)⟩
    obtain ⟨K, hK⟩ : ∃ K, Hid (K = opnds op) := ⟨_, (rfl : opnds op = _)⟩
    rw [← hK.out] at hO
    show Calls Tryz.prog 105 #[.agg (ex5 op t b nm (.slice a ks.length c)).toArray, .int .i64 ((h + 1 : Nat) : Int)] w _
    rw [← hn.out] at h4 h5 ⊢
    have hh1 : (((h + 1 : Nat) : Int) == 0) = false := by rw [beq_eq_false_iff_ne]; omega
    obtain ⟨H, hH⟩ : ∃ H : Int, H = ((h + 1 : Nat) : Int) := ⟨_, rfl⟩
    rw [← hH] at hh1 ⊢
    have hH1 : IntKind.i64.wrap (H - 1) = (h : Int) := by rw [IntKind.wrap_i64]; omega
    have hm : mayE (h + 1) (ET.mk op t b nm a c ks).ex = (decide ((n : Int) = K) && (if op = 1 then litOk t b && decide (nm.data.toList = []) else if op = 2 then isNm nm.data.toList && decide (t = 0 ∧ b = 0) else (ks.map ET.ex).all (mayE h) && (decide (nm.data.toList = []) && decide (t = 0 ∧ b = 0)))) := by
      show mayE (h + 1) (.mk op t b nm.data.toList (ET.exs ks)) = _
      rw [mayE, ET.exs_eq, List.length_map, ← hn.out, ← hK.out]
    obtain ⟨R, hR⟩ : ∃ R, Hid (R = (decide ((n : Int) = K) && (if op = 1 then litOk t b && decide (nm.data.toList = []) else if op = 2 then isNm nm.data.toList && decide (t = 0 ∧ b = 0) else (ks.map ET.ex).all (mayE h) && (decide (nm.data.toList = []) && decide (t = 0 ∧ b = 0))))) := ⟨_, (rfl : _ = _)⟩
    rw [hm, ← hR.out]
    clear hm hH
    go_enter Tryz.func105, Tryz.ntmps105
    go_wp2_with (first | ((with_reducible show wpList _ _ _ _ _ _); refine wpList_box_at rfl 43 (.tmp 0) rfl (ex5 op t b nm (.slice a n c)) rfl ?_; intro w1 hA1 hb1 hs1))
    have c0 : w1.cell? ⟨w.heap.size, 0, none⟩ = some (.int .u8 (op : Int)) := by rw [hA1.cell]; rfl
    have c1 : w1.cell? ⟨w.heap.size, 1, none⟩ = some (.int .u8 (t : Int)) := by rw [hA1.cell]; rfl
    have c2 : w1.cell? ⟨w.heap.size, 2, none⟩ = some (.int .u64 (b : Int)) := by rw [hA1.cell]; rfl
    have c3 : w1.cell? ⟨w.heap.size, 3, none⟩ = some (.string nm) := by rw [hA1.cell]; rfl
    have c4 : w1.cell? ⟨w.heap.size, 4, none⟩ = some (.slice a n c) := by rw [hA1.cell]; rfl
    have hq := eq26 t b
    by_cases hk : (n : Int) = K
    · subst hk
      have hd : decide ((n : Int) = (n : Int)) = true := by simp
      rw [hd, Bool.true_and] at hR
      clear hd
      go_quiet (first | (go_at_call 135; exact Calls.quiet_of_same (hO _)))
      clear hO
      by_cases ho1 : op = 1
      · rw [if_pos ho1] at hR
        subst ho1
        have hL := fun w hT h16 => mayLit_any t b h2 h3 w hT h16
        clear hq ih h6
        go_wp2_with fail
        refine (hL _ (hT.below (below_drN hb1 _) h16) (by show gB ≤ w1.heap.size; omega)).mono ?_
        rintro e w2 ⟨rfl, hb2⟩
        have c3' : w2.cell? ⟨w.heap.size, 3, none⟩ = some (.string nm) := by rw [((hA1.drewN nq).below hb2).cell]; rfl
        have hbb : Below w.heap.size w w2 := (below_drN hb1 _).trans (hb2.mono (by show w.heap.size ≤ w1.heap.size; omega))
        clear hb2 hA1 hb1 hL c0 c1 c2 c3 c4
        cases hM : litOk t b with
        | false =>
          rw [hM, Bool.false_and] at hR
          go_wp2
          go_ret
          exact ⟨by rw [hR.out]; rfl, hbb⟩
        | true =>
          rw [hM, Bool.true_and] at hR
          clear hM
          have hem := emp nm
          rw [← hR.out] at hem
          go_wp2
          go_ret
          exact ⟨rfl, hbb⟩
      by_cases ho2 : op = 2
      · rw [if_neg ho1, if_pos ho2] at hR
        subst ho2
        have hN := fun w => name_any nm w
        clear ih h6
        go_wp2_with fail
        refine (hN _).mono ?_
        rintro e w2 ⟨rfl, hw2⟩
        have hw2' := hw2.symm
        subst hw2'
        clear hN c0 c3 c4
        have hbb := below_drN hb1 nq
        unfold bytes
        cases hM : isNm nm.data.toList with
        | false =>
          rw [hM, Bool.false_and] at hR
          go_wp2
          go_ret
          exact ⟨by rw [hR.out]; rfl, hbb⟩
        | true =>
          rw [hM, Bool.true_and] at hR
          clear hM
          go_wp2
          go_ret
          exact ⟨by rw [hR.out, Bool.decide_and]; rfl, hbb⟩
      · rw [if_neg ho1, if_neg ho2] at hR
        have e1 : ((op : Int) == 1) = false := by rw [beq_eq_false_iff_ne]; omega
        have e2 : ((op : Int) == 2) = false := by rw [beq_eq_false_iff_ne]; omega
        have hem := emp nm
        go_wp2_with fail
        have H6 : Hid (ks = [] ∨ ∃ g o, a = some ⟨g, o, none⟩ ∧ g < B ∧ ET.Row B w g ks o) := h6
        have HB0 : Hid (Below w.heap.size w (w1.drewN nq) ∧ At 43 (w1.drewN nq) w.heap.size (ex5 op t b nm (.slice a n c))) := ⟨below_drN hb1 _, hA1.drewN _⟩
        clear h6 hb1 hA1 c0 c1 c2 c3 c4 e1 e2 ho1 ho2
        go_loopw [44] (fun j wr => ∃ i : Nat, j = .int .i64 (i : Int) ∧ i ≤ n ∧ Hid (Below w.heap.size w wr ∧ At 43 wr w.heap.size (ex5 op t b nm (.slice a n c)) ∧ ∀ x ∈ (ks.take i).map ET.ex, mayE h x = true)) (fun j _ => n - (intOf j).toNat)
        case atStart => exact ⟨0, rfl, by omega, HB0.out.1, HB0.out.2, by simp⟩
        case round =>
          obtain ⟨i, rfl, hi, hX⟩ := hrel
          by_cases hc : i < n
          · obtain ⟨k, hk⟩ : ∃ k, ks[i]? = some k := ⟨ks[i]'(by rw [← hn.out]; exact hc), by rw [List.getElem?_eq_getElem]⟩
            obtain ⟨hbw, hAr, hall⟩ := hX.out
            obtain ⟨g, o, ha, hg, hrow⟩ : ∃ g o, a = some ⟨g, o, none⟩ ∧ g < B ∧ ET.Row B w g ks o := by
              rcases H6.out with h | h
              · rw [h] at hk; simp at hk
              · exact h
            subst ha
            have hold : Old B w wr := Old.of_below hbw hBw
            obtain ⟨hrg, hkin⟩ := (ET.Row.old hold hg hrow).at i k hk
            have hb16 : gB ≤ wr.heap.size := by have := hbw.size; omega
            have HK : Hid (k.In B wr ∧ B ≤ wr.heap.size ∧ Tab wr) := ⟨hkin, by have := hbw.size; omega, hT.below hbw h16⟩
            have HY : Hid (Below w.heap.size w wr ∧ At 43 wr w.heap.size (ex5 op t b nm (.slice (some ⟨g, o, none⟩) n c)) ∧ ∀ x ∈ (ks.take i).map ET.ex, mayE h x = true) := ⟨hbw, hAr, hall⟩
            clear hX hkin hall hrow hold hbw hAr H6 HB0 hem hq
            go_wp2_with (first
              | ((with_reducible show wpList _ _ _ _ _ _); refine wpList_load_mid (P := Tryz.prog) rfl 43 (.tmp 46) rfl g (o + i * 5) (by first | rfl | (simp; done)) k.cells _ hrg Tryz.underlying43 rfl (by rw [ET.cells_len]; exact i29) ?_)
              | ((with_reducible show wpList _ _ _ _ _ _); refine wpList_alloc_at rfl 43 rfl (ex5 0 0 0 ⟨#[]⟩ (.slice none 0 0)) 5 z29 ?_; intro w2 hA2 hb2 hs2)
              | ((with_reducible show wpList _ _ _ _ _ _); refine wpList_store_at (P := Tryz.prog) rfl 43 (.tmp 6) (.tmp 47) rfl wr.heap.size k.cells rfl rfl 43 _ hA2 (by rw [ET.cells_len]; exact i29) (by rw [ET.cells_len]; rfl) k.one ?_; intro w3 hA3 hb3 hs3; refine Hid.out ?_))
            refine hidU ?_
            have hB3 : Below wr.heap.size wr w3 := hb3.below hb2 (Nat.le_refl _) (by omega)
            obtain ⟨hkin, hBwr, hTwr⟩ := HK.out
            have hk3 : k.In B w3 := hkin.old (Old.of_below hB3 hBwr)
            have hI := ih k w3 B (by omega) hk3 (by omega) (hTwr.below hB3 hb16) (by omega)
            clear hb3 hb2 hA2 HK hkin hk3 ih hTwr
            go_wp2_with (first | ((with_reducible show wpList _ _ _ _ _ _); refine wpList_load_at (P := Tryz.prog) rfl 43 (.tmp 6) rfl wr.heap.size rfl 43 k.cells hA3 _ Tryz.underlying43 rfl (by rw [ET.cells_len]; exact i29) ?_))
            refine hI.mono ?_
            rintro e w4 ⟨rfl, hb4⟩
            have HZ : Hid (Below w.heap.size w w4 ∧ At 43 w4 w.heap.size (ex5 op t b nm (.slice (some ⟨g, o, none⟩) n c)) ∧ ∀ x ∈ (ks.take i).map ET.ex, mayE h x = true) := by
              obtain ⟨q1, q2, q3⟩ := HY.out
              have hb5 : Below wr.heap.size wr w4 := hB3.trans (hb4.mono hB3.size)
              exact ⟨q1.trans (hb5.mono q1.size), q2.below hb5, q3⟩
            clear hI hb4 hB3 HY hA3 hrg
            cases hM : mayE h k.ex with
            | false =>
              have hRf : R = false := by
                rw [hR.out]
                have : (ks.map ET.ex).all (mayE h) = false := by
                  rw [List.all_eq_false]
                  exact ⟨k.ex, List.mem_map.2 ⟨k, List.mem_of_getElem? hk, rfl⟩, by rw [hM]; simp⟩
                rw [this, Bool.false_and]
              clear hM
              go_wp2
              go_ret
              exact ⟨by rw [hRf]; rfl, HZ.out.1⟩
            | true =>
              go_wp2
              go_roundw
              case rel =>
                refine ⟨i + 1, by go_num, by omega, ?_⟩
                obtain ⟨q1, q2, q3⟩ := HZ.out
                refine ⟨q1, q2, fun x hx => ?_⟩
                rw [List.take_add_one, hk, List.map_append, List.mem_append] at hx
                rcases hx with hx | hx
                · exact q3 x hx
                · simp at hx; rw [hx]; exact hM
              case measure => simp [intOf]; omega
          · have hin : i = n := by omega
            obtain ⟨q1, q2, q3⟩ := hX.out
            have hall : (ks.map ET.ex).all (mayE h) = true := by
              rw [List.all_eq_true]
              intro x hx
              apply q3 x
              rw [hin, hn.out, List.take_length]
              exact hx
            rw [hall, Bool.true_and] at hR
            have c1 : wr.cell? ⟨w.heap.size, 1, none⟩ = some (.int .u8 (t : Int)) := by rw [q2.cell]; rfl
            have c2 : wr.cell? ⟨w.heap.size, 2, none⟩ = some (.int .u64 (b : Int)) := by rw [q2.cell]; rfl
            have c3 : wr.cell? ⟨w.heap.size, 3, none⟩ = some (.string nm) := by rw [q2.cell]; rfl
            have HQ : Hid (Below w.heap.size w wr) := q1
            clear q1 q2 q3 hX hall hin H6 HB0 ih
            cases hM : decide (nm.data.toList = []) with
            | false =>
              rw [hM] at hR hem
              clear hM
              go_wp2
              go_ret
              exact ⟨by rw [hR.out]; rfl, HQ.out⟩
            | true =>
              rw [hM] at hR hem
              clear hM
              go_wp2
              go_ret
              exact ⟨by rw [hR.out, Bool.decide_and]; rfl, HQ.out⟩
    · have hk' : ((n : Int) == K) = false := by rw [beq_eq_false_iff_ne]; exact hk
      have hd : decide ((n : Int) = K) = false := by simpa using hk
      rw [hd, Bool.false_and] at hR
      clear hk hd
      go_quiet (first | (go_at_call 135; exact Calls.quiet_of_same (hO _)))
      go_wp2
      go_ret
      exact ⟨by rw [hR.out]; rfl, below_drN hb1 _⟩

end Go.Proofs.YtjgggmjjikopeaaGreatDoor

/- tree.sameExpr. -/
namespace Go.Proofs.YtjgggmjjikopeaaGreatDoor
open Go.RowKit
set_option linter.unusedVariables false

mutual
/-- Whether two expressions are the same. -/
def samX : Ex → Ex → Bool
  | .mk op t b nm ks, .mk op' t' b' nm' ks' => decide (op = op') && (decide (t = t' ∧ b = b') && (decide (nm = nm') && samL ks ks'))
def samL : List Ex → List Ex → Bool
  | [], [] => true
  | x :: r, y :: s => samX x y && samL r s
  | _, _ => false
end

theorem samL_iff : ∀ (xs ys : List Ex), samL xs ys = true ↔ xs.length = ys.length ∧ ∀ (i : Nat) (x y : Ex), xs[i]? = some x → ys[i]? = some y → samX x y = true
  | [], [] => by simp [samL]
  | [], y :: s => by simp [samL]
  | x :: r, [] => by simp [samL]
  | x :: r, y :: s => by
    rw [samL, Bool.and_eq_true, samL_iff r s]
    constructor
    · rintro ⟨h1, h2, h3⟩
      refine ⟨by simp [h2], fun i a b ha hb => ?_⟩
      cases i with
      | zero => simp at ha hb; subst ha hb; exact h1
      | succ i => exact h3 i a b (by simpa using ha) (by simpa using hb)
    · rintro ⟨h1, h2⟩
      exact ⟨h2 0 x y rfl rfl, by simpa using h1, fun i a b ha hb => h2 (i + 1) a b (by simpa using ha) (by simpa using hb)⟩

/-- A row of expressions in memory. -/
def RowE (B : Nat) (w : World) (a : Option Addr) (c : Nat) (ks : List ET) : Prop := ks.length ≤ 1048576 ∧ ks.length ≤ c ∧ (ks = [] ∨ ∃ g o, a = some ⟨g, o, none⟩ ∧ g < B ∧ ET.Row B w g ks o)

theorem RowE.old {B c : Nat} {w w' : World} {a : Option Addr} {ks : List ET} (h : RowE B w a c ks) (hO : Old B w w') : RowE B w' a c ks := by
  obtain ⟨h1, h2, h | ⟨g, o, ha, hg, hr⟩⟩ := h
  · exact ⟨h1, h2, .inl h⟩
  · exact ⟨h1, h2, .inr ⟨g, o, ha, hg, ET.Row.old hO hg hr⟩⟩

/-- One element of it. -/
theorem RowE.at {B c : Nat} {w : World} {a : Option Addr} {ks : List ET} (h : RowE B w a c ks) (i : Nat) (k : ET) (hk : ks[i]? = some k) : ∃ g o, a = some ⟨g, o, none⟩ ∧ g < B ∧ w.rangeAt g (o + i * 5) k.cells ∧ k.In B w := by
  obtain ⟨_, _, h | ⟨g, o, ha, hg, hr⟩⟩ := h
  · rw [h] at hk; simp at hk
  · obtain ⟨h1, h2⟩ := hr.at i k hk
    exact ⟨g, o, ha, hg, h1, h2⟩

theorem eq26g (t b t' b' : Nat) (u : World) : (Op.equalIn 10000 40 (.agg #[.int .u8 (t : Int), .int .u64 (b : Int)]) (.agg #[.int .u8 (t' : Int), .int .u64 (b' : Int)])).run Tryz.prog u = .ok (decide (t = t' ∧ b = b')) u := by
  by_cases h1 : t = t'
  · subst h1
    by_cases h2 : b = b'
    · subst h2
      go_simp
    · have e2 : ((b : Int) == (b' : Int)) = false := by rw [beq_eq_false_iff_ne]; omega
      go_simp
  · have e1 : ((t : Int) == (t' : Int)) = false := by rw [beq_eq_false_iff_ne]; omega
    go_simp

theorem ET.sz {op t b c : Nat} {nm : ByteArray} {a : Option Addr} {ks : List ET} {x : ET} (h : x ∈ ks) : SizeOf.sizeOf x < SizeOf.sizeOf (ET.mk op t b nm a c ks) := by
  have := List.sizeOf_lt_of_mem h
  simp only [ET.mk.sizeOf_spec]
  omega

end Go.Proofs.YtjgggmjjikopeaaGreatDoor

/- An expression's text is written. -/
namespace Go.Proofs.YtjgggmjjikopeaaGreatDoor
open Go.RowKit
set_option linter.unusedVariables false

section
variable {ops : Array Oper} {rest : List Oper} {o : Oper} {a : Act} {w : World} {Q : Exit → Act → World → Prop}
/-- Texts are laid as a row. -/
theorem wpList_strs (hgd : o.guard = none) (n : Nat) (parts : Array (Nat × Operand)) (ho : o.op = .buildSlice 23 n parts) (ss : List ByteArray) (hn : n = ss.length) (h0 : 0 < n) (h1 : n ≤ 1000)
    (hf : Instr.fill (fun i => some (i * 1, 1)) ((Array.range (n * 1)).map ((Value.string ⟨#[]⟩).cells[· % (Value.string ⟨#[]⟩).cells.size]!)) (parts.map fun (i, x) => (i, a.eval x)).toList = some (ss.map Value.string).toArray)
    (h : ∀ w', At 9 w' w.heap.size (ss.map .string) → Below w.heap.size w w' → w'.heap.size = w.heap.size + 1 → wpList Tryz.prog ops Q rest (a.put o.dst (.slice (some ⟨w.heap.size, 0, none⟩) ss.length ss.length)) w') :
    wpList Tryz.prog ops Q (o :: rest) a w := by
  obtain ⟨ie, hi, hz0, hz1, hz2⟩ := info_parts i9s
  refine wpList_buildSlice hgd 23 9 n parts ho (ss.map Value.string).toArray ie (.string ⟨#[]⟩) Tryz.underlying23 hi hz0 (by rw [hz1]; omega) (by rw [hz1]; omega) (by rw [hz1]; exact hf) ?_
  rw [hn]
  exact h _ (_root_.Go.heap_alloc_new w _) ((Below.refl _ w).alloc (Nat.le_refl _) _) (by show (w.heap.push _).size = _; simp)
end

/-- What writing an expression does. -/
def ExprW (B g m : Nat) (e : ET) : Prop := ∀ (w : World) (F : List UInt8), e.In B w → Txt B w g m F → B ≤ w.heap.size → Tab w → (F ++ exT e.ex).length ≤ 70368744177664 →
    Calls Tryz.prog 106 #[.pointer (some ⟨g, 0, none⟩), .agg e.cells.toArray] w fun r w' => r = .returned (.tuple #[]) ∧ Txt B w' g m (F ++ exT e.ex) ∧ Wr B g w w'

theorem Tab.wr {B g : Nat} {w w' : World} (h : Tab w) (hw : Wr B g w w') (hB : B ≤ g) (hBw : B ≤ w.heap.size) (h16 : gB ≤ B) : Tab w' := h.below (hw.below hB hBw) h16

set_option maxRecDepth 100000 in
set_option maxHeartbeats 1600000 in
theorem around_of (B g m : Nat) (e : ET) (hm : m ≤ 9223372036854775807) (h16 : gB ≤ B) (hE : ExprW B g m e) (s1 s2 : ByteArray) (w : World) (F : List UInt8) (hin : e.In B w) (hT : Txt B w g m F) (hBw : B ≤ w.heap.size) (hTab : Tab w)
    (hlen : (F ++ (s1.data.toList ++ (exT e.ex ++ s2.data.toList))).length ≤ 70368744177664) :
    Calls Tryz.prog 137 #[.pointer (some ⟨g, 0, none⟩), .string s1, .agg e.cells.toArray, .string s2] w fun r w' => r = .returned (.tuple #[]) ∧ Txt B w' g m (F ++ (s1.data.toList ++ (exT e.ex ++ s2.data.toList))) ∧ Wr B g w w' := by
  have hBg := hT.base
  have hgw := hT.lt
  obtain ⟨X, hX⟩ : ∃ X, Hid (X = exT e.ex) := ⟨_, (rfl : exT e.ex = _)⟩
  have HE : Hid (∀ (w : World) (F : List UInt8), e.In B w → Txt B w g m F → B ≤ w.heap.size → Tab w → (F ++ X).length ≤ 70368744177664 → Calls Tryz.prog 106 #[.pointer (some ⟨g, 0, none⟩), .agg e.cells.toArray] w fun r w' => r = .returned (.tuple #[]) ∧ Txt B w' g m (F ++ X) ∧ Wr B g w w') := by
    rw [hX.out]; exact hE
  rw [← hX.out] at hlen ⊢
  simp only [List.length_append] at hlen
  have HI : Hid (e.In B w ∧ Tab w ∧ Txt B w g m F) := ⟨hin, hTab, hT⟩
  clear hE hin hTab hT
  go_enter Tryz.func137, Tryz.ntmps137
  go_wp2_with (first
    | ((with_reducible show wpList _ _ _ _ _ _); refine wpList_box_at rfl 43 (.tmp 2) rfl e.cells rfl ?_; intro w1 hA1 hb1 hs1; clear hs1)
    | ((with_reducible show wpList _ _ _ _ _ _); refine wpList_strs rfl 1 #[(0, .tmp 9)] rfl [s1] rfl (by decide) (by decide) (by kernel_rfl) ?_; intro w2 hA2 hb2 hs2; clear hs2))
  have hT2 : Txt B w2 g m F := (HI.out.2.2.below hb1).below hb2
  have hA12 := hA1.below hb2
  have hbw2 : Below w.heap.size w w2 := hb1.trans (hb2.mono hb1.size)
  refine (put_any B g m _ [s1] F _ hm hT2 hA2 (by simp only [cat, List.map_cons, List.map_nil, List.flatten_cons, List.flatten_nil, List.append_nil, List.length_append]; omega) (by simp)).mono ?_
  rintro r w3 ⟨rfl, hT3, hW3⟩
  have hA3 := hW3.at hA12 (by omega) (by decide)
  have e3 : F ++ cat [s1] = F ++ s1.data.toList := by simp [cat]
  rw [e3] at hT3
  have hw3 : Wr B g w w3 := (Wr.of_below hbw2).trans hW3
  have hI3 := HE.out w3 _ (HI.out.1.old (Old.of_wr hw3 hBg hBw)) hT3 (by have := hw3.size; omega) (HI.out.2.1.wr hw3 hBg hBw h16) (by simp only [List.length_append]; omega)
  clear hT2 hA12 hW3 hA1 hA2 hb1 hb2 hbw2 e3 HE
  go_wp2_with (first
    | ((with_reducible show wpList _ _ _ _ _ _); refine wpList_load_at (P := Tryz.prog) rfl 43 (.tmp 6) rfl w.heap.size rfl 43 e.cells hA3 _ Tryz.underlying43 rfl (by rw [ET.cells_len]; exact i29) ?_))
  refine hI3.mono ?_
  rintro r w4 ⟨rfl, hT4, hW4⟩
  have hw4 := hw3.trans hW4
  clear hI3 hA3 hT3 hw3 hW4
  go_wp2_with (first
    | ((with_reducible show wpList _ _ _ _ _ _); refine wpList_strs rfl 1 #[(0, .tmp 16)] rfl [s2] rfl (by decide) (by decide) (by kernel_rfl) ?_; intro w5 hA5 hb5 hs5; clear hs5))
  refine (put_any B g m _ [s2] _ _ hm (hT4.below hb5) hA5 (by simp only [cat, List.map_cons, List.map_nil, List.flatten_cons, List.flatten_nil, List.append_nil, List.length_append]; omega) (by simp)).mono ?_
  rintro r w6 ⟨rfl, hT6, hW6⟩
  have HF : Hid (Txt B w6 g m (F ++ (s1.data.toList ++ (X ++ s2.data.toList))) ∧ Wr B g w w6) := by
    refine ⟨?_, hw4.trans ((Wr.of_below hb5).trans hW6)⟩
    have e : F ++ s1.data.toList ++ X ++ cat [s2] = F ++ (s1.data.toList ++ (X ++ s2.data.toList)) := by simp [cat]
    rw [← e]
    exact hT6
  clear hT6 hW6 hw4 hT4 hA5 hb5
  go_wp2
  go_end0
  exact ⟨rfl, HF.out⟩

theorem mayE_len {h op t b : Nat} {nm : List UInt8} {ks : List Ex} (hm : mayE (h + 1) (.mk op t b nm ks) = true) : (ks.length : Int) = opnds op := by
  rw [mayE, Bool.and_eq_true] at hm
  exact of_decide_eq_true hm.1

theorem mayE_kids {h op t b : Nat} {nm : List UInt8} {ks : List Ex} (hm : mayE (h + 1) (.mk op t b nm ks) = true) (h1 : op ≠ 1) (h2 : op ≠ 2) : ∀ x ∈ ks, mayE h x = true := by
  rw [mayE, if_neg h1, if_neg h2, Bool.and_eq_true, Bool.and_eq_true] at hm
  exact List.all_eq_true.1 hm.2.1

/-- Operands of an expression that lies in memory. -/
theorem ET.kid1 {B : Nat} {w : World} {op t b c : Nat} {nm : ByteArray} {a : Option Addr} {x : ET} (h : (ET.mk op t b nm a c [x]).In B w) : ∃ g o, a = some ⟨g, o, none⟩ ∧ g < B ∧ w.rangeAt g o x.cells ∧ x.In B w ∧ 1 ≤ c := by
  unfold ET.In at h
  obtain ⟨_, _, _, _, hc, h | ⟨g, o, ha, hg, hr⟩⟩ := h
  · cases h
  · unfold ET.Row at hr
    exact ⟨g, o, ha, hg, hr.1, hr.2.1, hc⟩
theorem ET.kid2 {B : Nat} {w : World} {op t b c : Nat} {nm : ByteArray} {a : Option Addr} {x y : ET} (h : (ET.mk op t b nm a c [x, y]).In B w) : ∃ g o, a = some ⟨g, o, none⟩ ∧ g < B ∧ w.rangeAt g o x.cells ∧ w.rangeAt g (o + 5) y.cells ∧ x.In B w ∧ y.In B w ∧ 2 ≤ c := by
  unfold ET.In at h
  obtain ⟨_, _, _, _, hc, h | ⟨g, o, ha, hg, hr⟩⟩ := h
  · cases h
  · unfold ET.Row at hr
    obtain ⟨h1, h2, h3⟩ := hr
    unfold ET.Row at h3
    exact ⟨g, o, ha, hg, h1, h3.1, h2, h3.2.1, hc⟩

set_option maxRecDepth 100000 in
set_option maxHeartbeats 1600000 in
theorem expr_un16 (B g m : Nat) (hm : m ≤ 9223372036854775807) (h16 : gB ≤ B) (nm : ByteArray) (a : Option Addr) (c : Nat) (x : ET) (hE : ExprW B g m x) (t b : Nat) : ExprW B g m (.mk 16 t b nm a c [x]) := by
  intro w F hin hT hBw hTab hlen
  obtain ⟨gk, o, rfl, hgk, hrg, hx, hc⟩ := ET.kid1 hin
  have hBg := hT.base
  have hgw := hT.lt
  have hX : exT (ET.mk 16 t b nm (some ⟨gk, o, none⟩) c [x]).ex = [45] ++ (exT x.ex ++ []) := by
    show exT (.mk 16 t b nm.data.toList [x.ex]) = _
    simp [exT]
  rw [hX] at hlen ⊢
  have hA := fun w hin hT hBw hTab => around_of B g m x hm h16 hE ⟨#[45]⟩ ⟨#[]⟩ w F hin hT hBw hTab hlen
  have HI : Hid (x.In B w ∧ Tab w ∧ Txt B w g m F ∧ w.rangeAt gk o x.cells) := ⟨hx, hTab, hT, hrg⟩
  show Calls Tryz.prog 106 #[.pointer (some ⟨g, 0, none⟩), .agg (ex5 16 t b nm (.slice (some ⟨gk, o, none⟩) 1 c)).toArray] w _
  clear hin hX hE hT hTab hx hrg
  go_enter Tryz.func106, Tryz.ntmps106
  go_wp2_with (first
    | ((with_reducible show wpList _ _ _ _ _ _); refine wpList_box_at rfl 43 (.tmp 1) rfl (ex5 16 t b nm (.slice (some ⟨gk, o, none⟩) 1 c)) rfl ?_; intro w1 hA1 hb1 hs1; clear hs1; refine Hid.out ?_))
  refine hidU ?_
  have c0 : w1.cell? ⟨w.heap.size, 0, none⟩ = some (.int .u8 16) := by rw [hA1.cell]; rfl
  have c4 : w1.cell? ⟨w.heap.size, 4, none⟩ = some (.slice (some ⟨gk, o, none⟩) 1 c) := by rw [hA1.cell]; rfl
  obtain ⟨q1, q2, q3, q4⟩ := HI.out
  have hr1 : w1.rangeAt gk o x.cells := Old.range (Old.of_below hb1 hBw) hgk q4
  have hA' := hA w1 (q1.old (Old.of_below hb1 hBw)) (q3.below hb1) (by have := hb1.size; omega) (q2.below hb1 (by omega))
  clear hA q1 q2 q3 q4 HI hA1
  go_wp2_with (first
    | ((with_reducible show wpList _ _ _ _ _ _); refine wpList_load_mid (P := Tryz.prog) rfl 43 (.tmp 50) rfl gk o (by first | rfl | (simp; done)) x.cells _ hr1 Tryz.underlying43 rfl (by rw [ET.cells_len]; exact i29) ?_))
  refine hA'.mono ?_
  rintro r w2 ⟨rfl, hT2, hW2⟩
  have HF : Hid (Txt B w2 g m (F ++ ([45] ++ (exT x.ex ++ []))) ∧ Wr B g w w2) := ⟨hT2, (Wr.of_below hb1).trans hW2⟩
  clear hA' hT2 hW2 hr1
  go_wp2
  go_end0
  exact ⟨rfl, HF.out⟩

set_option maxRecDepth 100000 in
set_option maxHeartbeats 1600000 in
theorem expr_un17 (B g m : Nat) (hm : m ≤ 9223372036854775807) (h16 : gB ≤ B) (nm : ByteArray) (a : Option Addr) (c : Nat) (x : ET) (hE : ExprW B g m x) (t b : Nat) : ExprW B g m (.mk 17 t b nm a c [x]) := by
  intro w F hin hT hBw hTab hlen
  obtain ⟨gk, o, rfl, hgk, hrg, hx, hc⟩ := ET.kid1 hin
  have hBg := hT.base
  have hgw := hT.lt
  have hX : exT (ET.mk 17 t b nm (some ⟨gk, o, none⟩) c [x]).ex = [33] ++ (exT x.ex ++ []) := by
    show exT (.mk 17 t b nm.data.toList [x.ex]) = _
    simp [exT]
  rw [hX] at hlen ⊢
  have hA := fun w hin hT hBw hTab => around_of B g m x hm h16 hE ⟨#[33]⟩ ⟨#[]⟩ w F hin hT hBw hTab hlen
  have HI : Hid (x.In B w ∧ Tab w ∧ Txt B w g m F ∧ w.rangeAt gk o x.cells) := ⟨hx, hTab, hT, hrg⟩
  show Calls Tryz.prog 106 #[.pointer (some ⟨g, 0, none⟩), .agg (ex5 17 t b nm (.slice (some ⟨gk, o, none⟩) 1 c)).toArray] w _
  clear hin hX hE hT hTab hx hrg
  go_enter Tryz.func106, Tryz.ntmps106
  go_wp2_with (first
    | ((with_reducible show wpList _ _ _ _ _ _); refine wpList_box_at rfl 43 (.tmp 1) rfl (ex5 17 t b nm (.slice (some ⟨gk, o, none⟩) 1 c)) rfl ?_; intro w1 hA1 hb1 hs1; clear hs1; refine Hid.out ?_))
  refine hidU ?_
  have c0 : w1.cell? ⟨w.heap.size, 0, none⟩ = some (.int .u8 17) := by rw [hA1.cell]; rfl
  have c4 : w1.cell? ⟨w.heap.size, 4, none⟩ = some (.slice (some ⟨gk, o, none⟩) 1 c) := by rw [hA1.cell]; rfl
  obtain ⟨q1, q2, q3, q4⟩ := HI.out
  have hr1 : w1.rangeAt gk o x.cells := Old.range (Old.of_below hb1 hBw) hgk q4
  have hA' := hA w1 (q1.old (Old.of_below hb1 hBw)) (q3.below hb1) (by have := hb1.size; omega) (q2.below hb1 (by omega))
  clear hA q1 q2 q3 q4 HI hA1
  go_wp2_with (first
    | ((with_reducible show wpList _ _ _ _ _ _); refine wpList_load_mid (P := Tryz.prog) rfl 43 (.tmp 58) rfl gk o (by first | rfl | (simp; done)) x.cells _ hr1 Tryz.underlying43 rfl (by rw [ET.cells_len]; exact i29) ?_))
  refine hA'.mono ?_
  rintro r w2 ⟨rfl, hT2, hW2⟩
  have HF : Hid (Txt B w2 g m (F ++ ([33] ++ (exT x.ex ++ []))) ∧ Wr B g w w2) := ⟨hT2, (Wr.of_below hb1).trans hW2⟩
  clear hA' hT2 hW2 hr1
  go_wp2
  go_end0
  exact ⟨rfl, HF.out⟩

set_option maxRecDepth 100000 in
set_option maxHeartbeats 1600000 in
theorem expr_un18 (B g m : Nat) (hm : m ≤ 9223372036854775807) (h16 : gB ≤ B) (nm : ByteArray) (a : Option Addr) (c : Nat) (x : ET) (hE : ExprW B g m x) (t b : Nat) : ExprW B g m (.mk 18 t b nm a c [x]) := by
  intro w F hin hT hBw hTab hlen
  obtain ⟨gk, o, rfl, hgk, hrg, hx, hc⟩ := ET.kid1 hin
  have hBg := hT.base
  have hgw := hT.lt
  have hX : exT (ET.mk 18 t b nm (some ⟨gk, o, none⟩) c [x]).ex = [105, 110, 116, 40] ++ (exT x.ex ++ [41]) := by
    show exT (.mk 18 t b nm.data.toList [x.ex]) = _
    simp [exT]
  rw [hX] at hlen ⊢
  have hA := fun w hin hT hBw hTab => around_of B g m x hm h16 hE ⟨#[105, 110, 116, 40]⟩ ⟨#[41]⟩ w F hin hT hBw hTab hlen
  have HI : Hid (x.In B w ∧ Tab w ∧ Txt B w g m F ∧ w.rangeAt gk o x.cells) := ⟨hx, hTab, hT, hrg⟩
  show Calls Tryz.prog 106 #[.pointer (some ⟨g, 0, none⟩), .agg (ex5 18 t b nm (.slice (some ⟨gk, o, none⟩) 1 c)).toArray] w _
  clear hin hX hE hT hTab hx hrg
  go_enter Tryz.func106, Tryz.ntmps106
  go_wp2_with (first
    | ((with_reducible show wpList _ _ _ _ _ _); refine wpList_box_at rfl 43 (.tmp 1) rfl (ex5 18 t b nm (.slice (some ⟨gk, o, none⟩) 1 c)) rfl ?_; intro w1 hA1 hb1 hs1; clear hs1; refine Hid.out ?_))
  refine hidU ?_
  have c0 : w1.cell? ⟨w.heap.size, 0, none⟩ = some (.int .u8 18) := by rw [hA1.cell]; rfl
  have c4 : w1.cell? ⟨w.heap.size, 4, none⟩ = some (.slice (some ⟨gk, o, none⟩) 1 c) := by rw [hA1.cell]; rfl
  obtain ⟨q1, q2, q3, q4⟩ := HI.out
  have hr1 : w1.rangeAt gk o x.cells := Old.range (Old.of_below hb1 hBw) hgk q4
  have hA' := hA w1 (q1.old (Old.of_below hb1 hBw)) (q3.below hb1) (by have := hb1.size; omega) (q2.below hb1 (by omega))
  clear hA q1 q2 q3 q4 HI hA1
  go_wp2_with (first
    | ((with_reducible show wpList _ _ _ _ _ _); refine wpList_load_mid (P := Tryz.prog) rfl 43 (.tmp 66) rfl gk o (by first | rfl | (simp; done)) x.cells _ hr1 Tryz.underlying43 rfl (by rw [ET.cells_len]; exact i29) ?_))
  refine hA'.mono ?_
  rintro r w2 ⟨rfl, hT2, hW2⟩
  have HF : Hid (Txt B w2 g m (F ++ ([105, 110, 116, 40] ++ (exT x.ex ++ [41]))) ∧ Wr B g w w2) := ⟨hT2, (Wr.of_below hb1).trans hW2⟩
  clear hA' hT2 hW2 hr1
  go_wp2
  go_end0
  exact ⟨rfl, HF.out⟩

set_option maxRecDepth 100000 in
set_option maxHeartbeats 1600000 in
theorem expr_un19 (B g m : Nat) (hm : m ≤ 9223372036854775807) (h16 : gB ≤ B) (nm : ByteArray) (a : Option Addr) (c : Nat) (x : ET) (hE : ExprW B g m x) (t b : Nat) : ExprW B g m (.mk 19 t b nm a c [x]) := by
  intro w F hin hT hBw hTab hlen
  obtain ⟨gk, o, rfl, hgk, hrg, hx, hc⟩ := ET.kid1 hin
  have hBg := hT.base
  have hgw := hT.lt
  have hX : exT (ET.mk 19 t b nm (some ⟨gk, o, none⟩) c [x]).ex = [114, 101, 97, 108, 40] ++ (exT x.ex ++ [41]) := by
    show exT (.mk 19 t b nm.data.toList [x.ex]) = _
    simp [exT]
  rw [hX] at hlen ⊢
  have hA := fun w hin hT hBw hTab => around_of B g m x hm h16 hE ⟨#[114, 101, 97, 108, 40]⟩ ⟨#[41]⟩ w F hin hT hBw hTab hlen
  have HI : Hid (x.In B w ∧ Tab w ∧ Txt B w g m F ∧ w.rangeAt gk o x.cells) := ⟨hx, hTab, hT, hrg⟩
  show Calls Tryz.prog 106 #[.pointer (some ⟨g, 0, none⟩), .agg (ex5 19 t b nm (.slice (some ⟨gk, o, none⟩) 1 c)).toArray] w _
  clear hin hX hE hT hTab hx hrg
  go_enter Tryz.func106, Tryz.ntmps106
  go_wp2_with (first
    | ((with_reducible show wpList _ _ _ _ _ _); refine wpList_box_at rfl 43 (.tmp 1) rfl (ex5 19 t b nm (.slice (some ⟨gk, o, none⟩) 1 c)) rfl ?_; intro w1 hA1 hb1 hs1; clear hs1; refine Hid.out ?_))
  refine hidU ?_
  have c0 : w1.cell? ⟨w.heap.size, 0, none⟩ = some (.int .u8 19) := by rw [hA1.cell]; rfl
  have c4 : w1.cell? ⟨w.heap.size, 4, none⟩ = some (.slice (some ⟨gk, o, none⟩) 1 c) := by rw [hA1.cell]; rfl
  obtain ⟨q1, q2, q3, q4⟩ := HI.out
  have hr1 : w1.rangeAt gk o x.cells := Old.range (Old.of_below hb1 hBw) hgk q4
  have hA' := hA w1 (q1.old (Old.of_below hb1 hBw)) (q3.below hb1) (by have := hb1.size; omega) (q2.below hb1 (by omega))
  clear hA q1 q2 q3 q4 HI hA1
  go_wp2_with (first
    | ((with_reducible show wpList _ _ _ _ _ _); refine wpList_load_mid (P := Tryz.prog) rfl 43 (.tmp 74) rfl gk o (by first | rfl | (simp; done)) x.cells _ hr1 Tryz.underlying43 rfl (by rw [ET.cells_len]; exact i29) ?_))
  refine hA'.mono ?_
  rintro r w2 ⟨rfl, hT2, hW2⟩
  have HF : Hid (Txt B w2 g m (F ++ ([114, 101, 97, 108, 40] ++ (exT x.ex ++ [41]))) ∧ Wr B g w w2) := ⟨hT2, (Wr.of_below hb1).trans hW2⟩
  clear hA' hT2 hW2 hr1
  go_wp2
  go_end0
  exact ⟨rfl, HF.out⟩

end Go.Proofs.YtjgggmjjikopeaaGreatDoor

/- An expression's text is written: literals, names, two operands; all. -/
namespace Go.Proofs.YtjgggmjjikopeaaGreatDoor
open Go.RowKit
set_option linter.unusedVariables false

set_option maxRecDepth 100000 in
set_option maxHeartbeats 1600000 in
theorem expr_lit (B g m : Nat) (hm : m ≤ 9223372036854775807) (h16 : gB ≤ B) (nm : ByteArray) (a : Option Addr) (c : Nat) (ks : List ET) (t b : Nat) : ExprW B g m (.mk 1 t b nm a c ks) := by
  intro w F hin hT hBw hTab hlen
  have hBg := hT.base
  have hgw := hT.lt
  have hX : exT (ET.mk 1 t b nm a c ks).ex = valTx t b := by
    show exT (.mk 1 t b nm.data.toList _) = _
    unfold exT
    rw [if_pos rfl]
  rw [hX] at hlen ⊢
  unfold ET.In at hin
  obtain ⟨_, ht, hb, _⟩ := hin
  have hV := fun w hT h => valueText_any t b ht hb w hT h
  obtain ⟨L, hL⟩ : ∃ L, Hid (L = valTx t b) := ⟨_, (rfl : valTx t b = _)⟩
  rw [← hL.out] at hV hlen ⊢
  have HI : Hid (Tab w ∧ Txt B w g m F) := ⟨hTab, hT⟩
  obtain ⟨n, hn⟩ : ∃ n, Hid (n = ks.length) := ⟨_, (rfl : ks.length = _)⟩
  show Calls Tryz.prog 106 #[.pointer (some ⟨g, 0, none⟩), .agg (ex5 1 t b nm (.slice a ks.length c)).toArray] w _
  rw [← hn.out]
  clear hX hT hTab
  go_enter Tryz.func106, Tryz.ntmps106
  go_wp2_with (first
    | ((with_reducible show wpList _ _ _ _ _ _); refine wpList_box_at rfl 43 (.tmp 1) rfl (ex5 1 t b nm (.slice a n c)) rfl ?_; intro w1 hA1 hb1 hs1; clear hs1; refine Hid.out ?_))
  refine hidU ?_
  have c0 : w1.cell? ⟨w.heap.size, 0, none⟩ = some (.int .u8 1) := by rw [hA1.cell]; rfl
  have c1 : w1.cell? ⟨w.heap.size, 1, none⟩ = some (.int .u8 (t : Int)) := by rw [hA1.cell]; rfl
  have c2 : w1.cell? ⟨w.heap.size, 2, none⟩ = some (.int .u64 (b : Int)) := by rw [hA1.cell]; rfl
  have hV' := hV w1 (HI.out.1.below hb1 (by omega)) (by have := hb1.size; omega)
  clear hV
  go_wp2_with fail
  refine hV'.mono ?_
  rintro r w2 ⟨rfl, hb2⟩
  have hT2 : Txt B w2 g m F := (HI.out.2.below hb1).below hb2
  have hbb : Below w.heap.size w w2 := hb1.trans (hb2.mono hb1.size)
  clear hV' hb1 hb2 hA1 HI c0 c1 c2
  go_wp2_with (first
    | ((with_reducible show wpList _ _ _ _ _ _); refine wpList_strs rfl 1 #[(0, .tmp 35)] rfl [⟨L.toArray⟩] rfl (by decide) (by decide) (by kernel_rfl) ?_; intro w3 hA3 hb3 hs3; clear hs3))
  refine (put_any B g m _ [⟨L.toArray⟩] F _ hm (hT2.below hb3) hA3 (by simpa [cat] using hlen) (by simp)).mono ?_
  rintro r w4 ⟨rfl, hT4, hW4⟩
  have HF : Hid (Txt B w4 g m (F ++ L) ∧ Wr B g w w4) := ⟨by simpa [cat] using hT4, (Wr.of_below (hbb.trans (hb3.mono hbb.size))).trans hW4⟩
  clear hT4 hW4 hT2 hbb hA3 hb3
  go_wp2
  go_end0
  exact ⟨rfl, HF.out⟩

set_option maxRecDepth 100000 in
set_option maxHeartbeats 1600000 in
theorem expr_name (B g m : Nat) (hm : m ≤ 9223372036854775807) (h16 : gB ≤ B) (nm : ByteArray) (a : Option Addr) (c : Nat) (ks : List ET) (t b : Nat) : ExprW B g m (.mk 2 t b nm a c ks) := by
  intro w F hin hT hBw hTab hlen
  have hBg := hT.base
  have hgw := hT.lt
  have hX : exT (ET.mk 2 t b nm a c ks).ex = nm.data.toList := by
    show exT (.mk 2 t b nm.data.toList _) = _
    unfold exT
    rw [if_neg (by decide), if_pos rfl]
  rw [hX] at hlen ⊢
  have HI : Hid (Txt B w g m F) := hT
  obtain ⟨n, hn⟩ : ∃ n, Hid (n = ks.length) := ⟨_, (rfl : ks.length = _)⟩
  show Calls Tryz.prog 106 #[.pointer (some ⟨g, 0, none⟩), .agg (ex5 2 t b nm (.slice a ks.length c)).toArray] w _
  rw [← hn.out]
  clear hX hT hTab hin
  go_enter Tryz.func106, Tryz.ntmps106
  go_wp2_with (first
    | ((with_reducible show wpList _ _ _ _ _ _); refine wpList_box_at rfl 43 (.tmp 1) rfl (ex5 2 t b nm (.slice a n c)) rfl ?_; intro w1 hA1 hb1 hs1; clear hs1; refine Hid.out ?_))
  refine hidU ?_
  have c0 : w1.cell? ⟨w.heap.size, 0, none⟩ = some (.int .u8 2) := by rw [hA1.cell]; rfl
  have c3 : w1.cell? ⟨w.heap.size, 3, none⟩ = some (.string nm) := by rw [hA1.cell]; rfl
  go_wp2_with (first
    | ((with_reducible show wpList _ _ _ _ _ _); refine wpList_strs rfl 1 #[(0, .tmp 42)] rfl [nm] rfl (by decide) (by decide) (by kernel_rfl) ?_; intro w3 hA3 hb3 hs3; clear hs3))
  refine (put_any B g m _ [nm] F _ hm ((HI.out.below hb1).below hb3) hA3 (by simpa [cat] using hlen) (by simp)).mono ?_
  rintro r w4 ⟨rfl, hT4, hW4⟩
  have HF : Hid (Txt B w4 g m (F ++ nm.data.toList) ∧ Wr B g w w4) := ⟨by simpa [cat] using hT4, (Wr.of_below (hb1.trans (hb3.mono hb1.size))).trans hW4⟩
  clear hT4 hW4 hA3 hb3 hA1 hb1 c0 c3
  go_wp2
  go_end0
  exact ⟨rfl, HF.out⟩

set_option maxRecDepth 100000 in
set_option maxHeartbeats 1600000 in
theorem expr_two (B g m : Nat) (hm : m ≤ 9223372036854775807) (h16 : gB ≤ B) (nm : ByteArray) (a : Option Addr) (c : Nat) (x y : ET) (hE : ExprW B g m x) (hE2 : ExprW B g m y) (op t b : Nat) (h3 : 3 ≤ op) (ho : op < 16) : ExprW B g m (.mk op t b nm a c [x, y]) := by
  intro w F hin hT hBw hTab hlen
  obtain ⟨gk, o, rfl, hgk, hrx, hry, hx, hy, hc⟩ := ET.kid2 hin
  have hBg := hT.base
  have hgw := hT.lt
  have hX : exT (ET.mk op t b nm (some ⟨gk, o, none⟩) c [x, y]).ex = [40] ++ (exT x.ex ++ [32]) ++ sgT op ++ ([32] ++ (exT y.ex ++ [41])) := by
    show exT (.mk op t b nm.data.toList [x.ex, y.ex]) = _
    rw [exT, if_neg (by omega), if_neg (by omega)]
    simp
  rw [hX] at hlen ⊢
  have hS := sign_any op
  obtain ⟨S, hSS⟩ : ∃ S, Hid (S = sgT op) := ⟨_, (rfl : sgT op = _)⟩
  obtain ⟨X, hXX⟩ : ∃ X, Hid (X = exT x.ex) := ⟨_, (rfl : exT x.ex = _)⟩
  obtain ⟨Y, hYY⟩ : ∃ Y, Hid (Y = exT y.ex) := ⟨_, (rfl : exT y.ex = _)⟩
  rw [← hSS.out] at hS hlen ⊢
  rw [← hXX.out, ← hYY.out] at hlen ⊢
  have hA := fun w hin hT hBw hTab => around_of B g m x hm h16 hE ⟨#[40]⟩ ⟨#[32]⟩ w F hin hT hBw hTab (by rw [← hXX.out]; simp at hlen ⊢; omega)
  have hA2 := fun w hin hT hBw hTab => around_of B g m y hm h16 hE2 ⟨#[32]⟩ ⟨#[41]⟩ w (F ++ ([40] ++ (X ++ [32])) ++ S) hin hT hBw hTab (by rw [← hYY.out]; simp at hlen ⊢; omega)
  rw [← hXX.out] at hA
  rw [← hYY.out] at hA2
  have HI : Hid (x.In B w ∧ Tab w ∧ Txt B w g m F ∧ w.rangeAt gk o x.cells) := ⟨hx, hTab, hT, hrx⟩
  have HJ : Hid (y.In B w ∧ w.rangeAt gk (o + 5) y.cells) := ⟨hy, hry⟩
  have HL : Hid ((F ++ ([40] ++ (X ++ [32]) ++ S ++ ([32] ++ (Y ++ [41])))).length ≤ 70368744177664) := hlen
  have e1 : ((op : Int) == 1) = false := by rw [beq_eq_false_iff_ne]; omega
  have e2 : ((op : Int) == 2) = false := by rw [beq_eq_false_iff_ne]; omega
  have e16 : ((op : Int) == 16) = false := by rw [beq_eq_false_iff_ne]; omega
  have e17 : ((op : Int) == 17) = false := by rw [beq_eq_false_iff_ne]; omega
  have e18 : ((op : Int) == 18) = false := by rw [beq_eq_false_iff_ne]; omega
  have e19 : ((op : Int) == 19) = false := by rw [beq_eq_false_iff_ne]; omega
  show Calls Tryz.prog 106 #[.pointer (some ⟨g, 0, none⟩), .agg (ex5 op t b nm (.slice (some ⟨gk, o, none⟩) 2 c)).toArray] w _
  clear hin hX hE hE2 hT hTab hx hy hrx hry hlen
  go_enter Tryz.func106, Tryz.ntmps106
  go_wp2_with (first
    | ((with_reducible show wpList _ _ _ _ _ _); refine wpList_box_at rfl 43 (.tmp 1) rfl (ex5 op t b nm (.slice (some ⟨gk, o, none⟩) 2 c)) rfl ?_; intro w1 hA1 hb1 hs1; clear hs1; refine Hid.out ?_))
  refine hidU ?_
  have c0 : w1.cell? ⟨w.heap.size, 0, none⟩ = some (.int .u8 (op : Int)) := by rw [hA1.cell]; rfl
  have c4 : w1.cell? ⟨w.heap.size, 4, none⟩ = some (.slice (some ⟨gk, o, none⟩) 2 c) := by rw [hA1.cell]; rfl
  obtain ⟨q1, q2, q3, q4⟩ := HI.out
  have hr1 : w1.rangeAt gk o x.cells := Old.range (Old.of_below hb1 hBw) hgk q4
  have hA' := hA w1 (q1.old (Old.of_below hb1 hBw)) (q3.below hb1) (by have := hb1.size; omega) (q2.below hb1 (by omega))
  clear hA q1 q3 q4 HI
  go_wp2_with (first
    | ((with_reducible show wpList _ _ _ _ _ _); refine wpList_load_mid (P := Tryz.prog) rfl 43 (.tmp 11) rfl gk o (by first | rfl | (simp; done)) x.cells _ hr1 Tryz.underlying43 rfl (by rw [ET.cells_len]; exact i29) ?_))
  refine hA'.mono ?_
  rintro r w2 ⟨rfl, hT2, hW2⟩
  have hw2 : Wr B g w w2 := (Wr.of_below hb1).trans hW2
  have hA2b := hW2.at hA1 (by omega) (by decide)
  clear hA' hW2 hr1 c0 c4 hA1 hb1
  have c0 : w2.cell? ⟨w.heap.size, 0, none⟩ = some (.int .u8 (op : Int)) := by rw [hA2b.cell]; rfl
  go_wp2_with fail
  refine (hS _).mono ?_
  rintro r w2' ⟨rfl, hw2'⟩
  have hw2'' := hw2'.symm
  subst hw2''
  clear hw2' hS
  go_wp2_with (first
    | ((with_reducible show wpList _ _ _ _ _ _); refine wpList_strs rfl 1 #[(0, .tmp 17)] rfl [⟨S.toArray⟩] rfl (by decide) (by decide) (by kernel_rfl) ?_; intro w3 hA3 hb3 hs3; clear hs3))
  refine (put_any B g m _ [⟨S.toArray⟩] _ _ hm (hT2.below hb3) hA3 (by have := HL.out; simp [cat] at this ⊢; omega) (by simp)).mono ?_
  rintro r w4 ⟨rfl, hT4, hW4⟩
  have hT4' : Txt B w4 g m (F ++ ([40] ++ (X ++ [32])) ++ S) := by simpa [cat] using hT4
  have hA4 := hW4.at (hA2b.below hb3) (by omega) (by decide)
  have hw4 : Wr B g w w4 := hw2.trans ((Wr.of_below hb3).trans hW4)
  have hold : Old B w w4 := Old.of_wr hw4 hBg hBw
  have hr4 : w4.rangeAt gk (o + 5) y.cells := Old.range hold hgk HJ.out.2
  have hA5 := hA2 w4 (HJ.out.1.old hold) hT4' (by have := hw4.size; omega) (q2.wr hw4 hBg hBw h16)
  clear hA2 hT4 hT4' hW4 hA3 hb3 hA2b hw2 hT2 hold HJ q2 c0
  have c4 : w4.cell? ⟨w.heap.size, 4, none⟩ = some (.slice (some ⟨gk, o, none⟩) 2 c) := by rw [hA4.cell]; rfl
  go_wp2_with (first
    | ((with_reducible show wpList _ _ _ _ _ _); refine wpList_load_mid (P := Tryz.prog) rfl 43 (.tmp 23) rfl gk (o + 5) (by first | rfl | (simp; done)) y.cells _ hr4 Tryz.underlying43 rfl (by rw [ET.cells_len]; exact i29) ?_))
  refine hA5.mono ?_
  rintro r w6 ⟨rfl, hT6, hW6⟩
  have HF : Hid (Txt B w6 g m (F ++ ([40] ++ (X ++ [32]) ++ S ++ ([32] ++ (Y ++ [41])))) ∧ Wr B g w w6) := ⟨by simpa using hT6, hw4.trans hW6⟩
  clear hA5 hT6 hW6 hr4 hA4 hw4
  go_wp2
  go_end0
  exact ⟨rfl, HF.out⟩

/-- An expression that may be printed is written as its text. -/
theorem expr_any (B g m : Nat) (hm : m ≤ 9223372036854775807) (h16 : gB ≤ B) (h : Nat) : ∀ e : ET, mayE h e.ex = true → ExprW B g m e := by
  induction h with
  | zero => intro e he; simp [mayE] at he
  | succ h ih =>
    rintro ⟨op, t, b, nm, a, c, ks⟩ he
    have hl := mayE_len (show mayE (h + 1) (.mk op t b nm.data.toList (ET.exs ks)) = true from he)
    rw [ET.exs_eq, List.length_map] at hl
    by_cases h1 : op = 1
    · subst h1; exact expr_lit B g m hm h16 nm a c ks t b
    by_cases h2 : op = 2
    · subst h2; exact expr_name B g m hm h16 nm a c ks t b
    have hk := mayE_kids (show mayE (h + 1) (.mk op t b nm.data.toList (ET.exs ks)) = true from he) h1 h2
    rw [ET.exs_eq] at hk
    unfold opnds at hl
    rw [if_neg (by omega)] at hl
    by_cases h3 : 16 ≤ op ∧ op < 20
    · rw [if_pos h3] at hl
      match ks, hl, hk with
      | [x], _, hk =>
        have hx := ih x (hk x.ex (by simp))
        have : op = 16 ∨ op = 17 ∨ op = 18 ∨ op = 19 := by omega
        rcases this with rfl | rfl | rfl | rfl
        · exact expr_un16 B g m hm h16 nm a c x hx t b
        · exact expr_un17 B g m hm h16 nm a c x hx t b
        · exact expr_un18 B g m hm h16 nm a c x hx t b
        · exact expr_un19 B g m hm h16 nm a c x hx t b
    · rw [if_neg h3] at hl
      by_cases h4 : 3 ≤ op ∧ op < 16
      · rw [if_pos h4] at hl
        match ks, hl, hk with
        | [x, y], _, hk => exact expr_two B g m hm h16 nm a c x y (ih x (hk x.ex (by simp))) (ih y (hk y.ex (by simp))) op t b h4.1 h4.2
      · rw [if_neg h4] at hl
        omega

end Go.Proofs.YtjgggmjjikopeaaGreatDoor

/- tree.Expr. -/
namespace Go.Proofs.YtjgggmjjikopeaaGreatDoor
open Go.RowKit
set_option linter.unusedVariables false

theorem z54 : (Tryz.prog.info? 88).map (fun i => (i.zero, i.size)) = some (some (.agg [.pointer none, .slice none 0 0, .int .i64 0].toArray), 3) := by kernel_rfl
theorem i54 : (Tryz.prog.info? 88).map (·.size) = some 3 := by kernel_rfl
theorem one54 (m : Int) : ∀ v ∈ [Value.pointer none, .slice none 0 0, .int .i64 m], v.oneCell' = true := by
  intro v hv
  simp at hv
  rcases hv with rfl | rfl | rfl <;> rfl

theorem Txt.new {w : World} {g m B : Nat} (hB : B ≤ g) (h : At 88 w g [.pointer none, .slice none 0 0, .int .i64 (m : Int)]) : Txt B w g m [] :=
  ⟨[], .inl rfl, Nat.le_refl _, Raw.new hB h⟩

set_option maxRecDepth 100000 in
set_option maxHeartbeats 1600000 in
theorem expr4_any (e : ET) (B : Nat) (w : World) (h : e.In B w) (hBw : B ≤ w.heap.size) (hT : Tab w) (h16 : gB ≤ w.heap.size) (hlen : (exT e.ex).length ≤ 70368744177664) :
    Calls Tryz.prog 70 #[.agg e.cells.toArray] w fun r w' => r = .returned (.tuple #[.string ⟨(if mayE 32 e.ex then exT e.ex else []).toArray⟩, .int .i64 (if mayE 32 e.ex then 0 else 2)]) ∧ Below w.heap.size w w' := by
  have hM := fun w h hB hT h16 => mayExpr_any 32 e w B (by decide) h hB hT h16
  have hW : ∀ C g, gB ≤ C → mayE 32 e.ex = true → ExprW C g 9223372036854775807 e := fun C g hC hm => expr_any C g 9223372036854775807 (by decide) hC 32 e hm
  obtain ⟨M, hMM⟩ : ∃ M, Hid (M = mayE 32 e.ex) := ⟨_, (rfl : _ = mayE 32 e.ex)⟩
  rw [← hMM.out] at hM hW ⊢
  have HI : Hid (e.In B w ∧ Tab w) := ⟨h, hT⟩
  obtain ⟨X, hX⟩ : ∃ X, Hid (X = exT e.ex) := ⟨_, (rfl : exT e.ex = _)⟩
  rw [← hX.out] at hlen ⊢
  have HW : Hid (∀ C g, gB ≤ C → M = true → ExprW C g 9223372036854775807 e) := hW
  clear h hT hW
  go_enter Tryz.func70, Tryz.ntmps70
  go_wp2_with (first
    | ((with_reducible show wpList _ _ _ _ _ _); refine wpList_box_at rfl 43 (.tmp 0) rfl e.cells rfl ?_; intro w1 hA1 hb1 hs1; clear hs1)
    | ((with_reducible show wpList _ _ _ _ _ _); refine wpList_load_at (P := Tryz.prog) rfl 43 (.tmp 1) rfl w.heap.size rfl 43 e.cells hA1 _ Tryz.underlying43 rfl (by rw [ET.cells_len]; exact i29) ?_))
  refine (hM w1 (HI.out.1.old (Old.of_below hb1 hBw)) (by have := hb1.size; omega) (HI.out.2.below hb1 h16) (by have := hb1.size; omega)).mono ?_
  rintro r w2 ⟨rfl, hb2⟩
  have hA2 := hA1.below hb2
  have hw2 := hb1.trans (hb2.mono hb1.size)
  clear hM hA1 hb2 hb1
  cases M with
  | false =>
    go_wp2_with fail
    go_ret2
    exact ⟨rfl, hw2⟩
  | true =>
    go_wp2_with (first
      | ((with_reducible show wpList _ _ _ _ _ _); refine wpList_build_at (P := Tryz.prog) rfl 88 #[(1, .const (.int .i64 9223372036854775807))] rfl [.pointer none, .slice none 0 0, .int .i64 9223372036854775807] (by kernel_rfl) ?_)
      | ((with_reducible show wpList _ _ _ _ _ _); refine wpList_alloc_at rfl 88 rfl _ 3 z54 ?_; intro w3 hA3 hb3 hs3)
      | ((with_reducible show wpList _ _ _ _ _ _); refine wpList_store_at (P := Tryz.prog) rfl 88 (.tmp 4) (.tmp 8) rfl w2.heap.size [.pointer none, .slice none 0 0, .int .i64 9223372036854775807] rfl rfl 88 _ hA3 i54 rfl (one54 _) ?_; intro w4 hA4 hb4 hs4; refine Hid.out ?_))
    refine hidU ?_
    have hB4 : Below w2.heap.size w2 w4 := hb4.below hb3 (Nat.le_refl _) (by omega)
    have hw4 := hw2.trans (hB4.mono hw2.size)
    have hA24 := hA2.below hB4
    have hBw2 : w.heap.size ≤ w2.heap.size := hw2.size
    have hE := HW.out w2.heap.size w2.heap.size (by omega) trivial w4 [] ((HI.out.1.old (Old.of_below hw4 hBw)).up (by omega)) (Txt.new (Nat.le_refl _) hA4) (by have := hB4.size; omega) (HI.out.2.below hw4 h16) (by rw [← hX.out]; simpa using hlen)
    rw [← hX.out, List.nil_append] at hE
    clear HW hA3 hb3 hb4 hs3 hs4 hA2 hA4
    go_wp2_with (first
      | ((with_reducible show wpList _ _ _ _ _ _); refine wpList_load_at (P := Tryz.prog) rfl 43 (.tmp 1) rfl w.heap.size rfl 43 e.cells hA24 _ Tryz.underlying43 rfl (by rw [ET.cells_len]; exact i29) ?_))
    refine hE.mono ?_
    rintro r w5 ⟨rfl, hT5, hW5⟩
    obtain ⟨bs, hbs, hbl, hraw⟩ := hT5
    have hbX : bs = X := by
      rcases hbs with h | ⟨h, _⟩
      · exact h
      · omega
    subst hbX
    have hs5 : w2.heap.size ≤ w5.heap.size := by have := hB4.size; have := hW5.size; omega
    have hS := string_any w2.heap.size w2.heap.size _ bs w5 hraw hs5
    have hw5 : Below w.heap.size w w5 := hw4.trans ((hW5.below (Nat.le_refl _) (by have := hB4.size; omega)).mono hBw2)
    clear hE hW5 hraw hbs hA24 hw4 hB4
    go_wp2_with fail
    refine hS.mono ?_
    rintro r w6 ⟨rfl, hb6⟩
    go_wp2_with fail
    go_ret2
    exact ⟨rfl, hw5.trans (hb6.mono hBw2)⟩

end Go.Proofs.YtjgggmjjikopeaaGreatDoor
