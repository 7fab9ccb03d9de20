/- Joined texts of the proof. -/
import Derived.Test.YtcmahiphfpgadaaDoorJ2
import Derived.Test.YtcmahiphfpgadaaDoorJ13
import Derived.Test.YtcmahiphfpgadaaDoorJ14

/- Expressions in memory. -/
namespace Go.Proofs.YtcmahiphfpgadaaDoor
open Go.RowKit
set_option linter.unusedVariables false

/-- An expression, with where its operands lie. -/
inductive ET where
  | mk (op t b : Nat) (nm : ByteArray) (a : Option Addr) (c : Nat) (kids : List ET)

/-- Its cells. -/
def ET.cells : ET → List Value
  | .mk op t b nm a c ks => [.int .u8 (op : Int), .int .u8 (t : Int), .int .u64 (b : Int), .string nm, .slice a ks.length c]

mutual
/-- As data. -/
def ET.ex : ET → Ex
  | .mk op t b nm _ _ ks => .mk op t b nm.data.toList (ET.exs ks)
def ET.exs : List ET → List Ex
  | [] => []
  | e :: r => e.ex :: ET.exs r
end

mutual
/-- It lies in blocks below B. -/
def ET.In (B : Nat) (w : World) : ET → Prop
  | .mk op t b nm a c ks => op < 256 ∧ t < 256 ∧ b < 18446744073709551616 ∧ ks.length ≤ 1048576 ∧ ks.length ≤ c ∧ (ks = [] ∨ ∃ g o, a = some ⟨g, o, none⟩ ∧ g < B ∧ ET.Row B w g ks o)
def ET.Row (B : Nat) (w : World) (g : Nat) : List ET → Nat → Prop
  | [], _ => True
  | e :: r, o => w.rangeAt g o e.cells ∧ e.In B w ∧ ET.Row B w g r (o + 5)
end

theorem ET.exs_eq : ∀ ks : List ET, ET.exs ks = ks.map ET.ex
  | [] => rfl
  | e :: r => by rw [ET.exs, ET.exs_eq r]; rfl

theorem ET.cells_len (e : ET) : e.cells.length = 5 := by cases e; rfl

/-- Blocks below B stand. -/
def Old (B : Nat) (w w' : World) : Prop := ∀ k, k < B → w'.heap[k]? = w.heap[k]?

theorem Old.of_below {B C : Nat} {w w' : World} (h : Below C w w') (hB : B ≤ C) : Old B w w' := fun k hk => h.block k (by omega)
theorem Old.of_wr {B g : Nat} {w w' : World} (h : Wr B g w w') (hB : B ≤ g) (hw : B ≤ w.heap.size) : Old B w w' := fun k hk => h.block k (by omega) (by omega) (.inl hk)
theorem Old.trans {B : Nat} {a b c : World} (h : Old B a b) (k : Old B b c) : Old B a c := fun i hi => (k i hi).trans (h i hi)
theorem Old.range {B g o : Nat} {w w' : World} {cs : List Value} (h : Old B w w') (hg : g < B) (hr : w.rangeAt g o cs) : w'.rangeAt g o cs := fun j v hj => by
  rw [World.cell?_of_block (w := w) (w' := w') (h _ hg)]
  exact hr j v hj

mutual
theorem ET.In.old {B : Nat} {w w' : World} (hO : Old B w w') : ∀ {e : ET}, e.In B w → e.In B w'
  | .mk op t b nm a c ks, h => by
    unfold ET.In at h ⊢
    obtain ⟨h1, h2, h3, h4, h5, h6⟩ := h
    refine ⟨h1, h2, h3, h4, h5, ?_⟩
    rcases h6 with h6 | ⟨g, o, ha, hg, hr⟩
    · exact .inl h6
    · exact .inr ⟨g, o, ha, hg, ET.Row.old hO hg hr⟩
theorem ET.Row.old {B : Nat} {w w' : World} (hO : Old B w w') {g : Nat} (hg : g < B) : ∀ {ks : List ET} {o : Nat}, ET.Row B w g ks o → ET.Row B w' g ks o
  | [], o, _ => trivial
  | e :: r, o, h => by
    unfold ET.Row at h ⊢
    exact ⟨hO.range hg h.1, ET.In.old hO h.2.1, ET.Row.old hO hg h.2.2⟩
end

mutual
theorem ET.In.up {B C : Nat} {w : World} (hBC : B ≤ C) : ∀ {e : ET}, e.In B w → e.In C w
  | .mk op t b nm a c ks, h => by
    unfold ET.In at h ⊢
    obtain ⟨h1, h2, h3, h4, h5, h6⟩ := h
    refine ⟨h1, h2, h3, h4, h5, ?_⟩
    rcases h6 with h6 | ⟨g, o, ha, hg, hr⟩
    · exact .inl h6
    · exact .inr ⟨g, o, ha, by omega, ET.Row.up hBC hr⟩
theorem ET.Row.up {B C : Nat} {w : World} (hBC : B ≤ C) {g : Nat} : ∀ {ks : List ET} {o : Nat}, ET.Row B w g ks o → ET.Row C w g ks o
  | [], o, _ => trivial
  | e :: r, o, h => by
    unfold ET.Row at h ⊢
    exact ⟨h.1, ET.In.up hBC h.2.1, ET.Row.up hBC h.2.2⟩
end

theorem ET.Row.at {B g : Nat} {w : World} : ∀ {ks : List ET} {o : Nat}, ET.Row B w g ks o → ∀ (i : Nat) (e : ET), ks[i]? = some e → w.rangeAt g (o + i * 5) e.cells ∧ e.In B w
  | [], o, _, i, e, h => by simp at h
  | x :: r, o, hr, 0, e, h => by
    unfold ET.Row at hr
    simp at h
    subst h
    exact ⟨by simpa using hr.1, hr.2.1⟩
  | x :: r, o, hr, i + 1, e, h => by
    unfold ET.Row at hr
    have := ET.Row.at hr.2.2 i e (by simpa using h)
    rw [show o + (i + 1) * 5 = o + 5 + i * 5 by omega]
    exact this

/-- Whether an expression may be printed, so high at most. -/
def mayE : Nat → Ex → Bool
  | 0, _ => false
  | h + 1, .mk op t b nm ks => decide ((ks.length : Int) = opnds op) && (if op = 1 then litOk t b && decide (nm = []) else if op = 2 then isNm nm && decide (t = 0 ∧ b = 0) else ks.all (mayE h) && (decide (nm = []) && decide (t = 0 ∧ b = 0)))

/-- An expression's text, if it may be printed. -/
def exT : Ex → List UInt8
  | .mk op t b nm ks => if op = 1 then valTx t b else if op = 2 then nm else
    match ks with
    | [] => []
    | [x] => if op = 16 then 45 :: exT x else if op = 17 then 33 :: exT x else if op = 18 then [105, 110, 116, 40] ++ (exT x ++ [41]) else if op = 19 then [114, 101, 97, 108, 40] ++ (exT x ++ [41]) else []
    | x :: y :: _ => 40 :: (exT x ++ 32 :: (sgT op ++ 32 :: (exT y ++ [41])))

theorem z29 : (Tryd.prog.info? 29).map (fun i => (i.zero, i.size)) = some (some (.agg [.int .u8 0, .int .u8 0, .int .u64 0, .string ⟨#[]⟩, .slice none 0 0].toArray), 5) := by kernel_rfl
theorem i29 : (Tryd.prog.info? 29).map (·.size) = some 5 := by kernel_rfl

theorem ET.one (e : ET) : ∀ v ∈ e.cells, v.oneCell' = true := by
  cases e
  intro v hv
  simp [ET.cells] at hv
  rcases hv with rfl | rfl | rfl | rfl | rfl <;> rfl

end Go.Proofs.YtcmahiphfpgadaaDoor

/- tree.mayExpr. -/
namespace Go.Proofs.YtcmahiphfpgadaaDoor
open Go.RowKit
set_option linter.unusedVariables false

def ex5 (op t b : Nat) (nm : ByteArray) (sl : Value) : List Value := [.int .u8 (op : Int), .int .u8 (t : Int), .int .u64 (b : Int), .string nm, sl]

theorem below_drN {B : Nat} {w w' : World} (h : Below B w w') (n : Nat) : Below B w (w'.drewN n) := ⟨h.os, h.tape, h.output, h.size, h.block⟩

theorem eq26 (t b : Nat) (u : World) : (Op.equalIn 10000 26 (.agg #[.int .u8 (t : Int), .int .u64 (b : Int)]) (.agg #[.int .u8 0, .int .u64 0])).run Tryd.prog u = .ok (decide (t = 0 ∧ b = 0)) u := by
  by_cases h1 : t = 0
  · subst h1
    by_cases h2 : b = 0
    · subst h2
      go_simp
    · have e2 : ((b : Int) == 0) = false := by rw [beq_eq_false_iff_ne]; omega
      go_simp
  · have e1 : ((t : Int) == 0) = false := by rw [beq_eq_false_iff_ne]; omega
    go_simp

theorem hidU {p : Prop} (h : p) : Hid p := h

theorem emp (nm : ByteArray) : nm.toList.isEmpty = decide (nm.data.toList = []) := by
  by_cases h : nm.size = 0
  · rw [is_empty h]
    have : nm.data.toList = [] := List.length_eq_zero_iff.1 (by rw [Array.length_toList]; exact h)
    simp [this]
  · rw [not_empty (Nat.pos_of_ne_zero h)]
    have : ¬ nm.data.toList = [] := fun he => h (by have := congrArg List.length he; rw [Array.length_toList] at this; exact this)
    simp [this]

set_option maxRecDepth 100000 in
set_option maxHeartbeats 3200000 in
theorem mayExpr_any (h : Nat) : ∀ (e : ET) (w : World) (B : Nat), h ≤ 32 → e.In B w → B ≤ w.heap.size → Tab w → gB ≤ w.heap.size →
    Calls Tryd.prog 10 #[.agg e.cells.toArray, .int .i64 (h : Int)] w fun r w' => r = .returned (.bool (mayE h e.ex)) ∧ Below w.heap.size w w' := by
  induction h with
  | zero =>
    rintro ⟨op, t, b, nm, a, c, ks⟩ w B hh hin hBw hT h16
    have hm : mayE 0 (ET.mk op t b nm a c ks).ex = false := rfl
    rw [hm]
    clear hm hin
    go_enter Tryd.func10, Tryd.ntmps10
    go_wp2_with (first | ((with_reducible show wpList _ _ _ _ _ _); refine wpList_box_at rfl 29 (.tmp 0) rfl (ex5 op t b nm (.slice a ks.length c)) rfl ?_; intro w1 hA1 hb1 hs1))
    go_quiet (fail)
    go_wp2
    go_ret
    exact ⟨rfl, below_drN hb1 _⟩
  | succ h ih =>
    rintro ⟨op, t, b, nm, a, c, ks⟩ w B hh hin hBw hT h16
    unfold ET.In at hin
    obtain ⟨h1, h2, h3, h4, h5, h6⟩ := hin
    have hO := operands_any op
    obtain ⟨n, hn⟩ : ∃ n, Hid (n = ks.length) := ⟨_, (rfl : ks.length = _)⟩
    obtain ⟨K, hK⟩ : ∃ K, Hid (K = opnds op) := ⟨_, (rfl : opnds op = _)⟩
    rw [← hK.out] at hO
    show Calls Tryd.prog 10 #[.agg (ex5 op t b nm (.slice a ks.length c)).toArray, .int .i64 ((h + 1 : Nat) : Int)] w _
    rw [← hn.out] at h4 h5 ⊢
    have hh1 : (((h + 1 : Nat) : Int) == 0) = false := by rw [beq_eq_false_iff_ne]; omega
    obtain ⟨H, hH⟩ : ∃ H : Int, H = ((h + 1 : Nat) : Int) := ⟨_, rfl⟩
    rw [← hH] at hh1 ⊢
    have hH1 : IntKind.i64.wrap (H - 1) = (h : Int) := by rw [IntKind.wrap_i64]; omega
    have hm : mayE (h + 1) (ET.mk op t b nm a c ks).ex = (decide ((n : Int) = K) && (if op = 1 then litOk t b && decide (nm.data.toList = []) else if op = 2 then isNm nm.data.toList && decide (t = 0 ∧ b = 0) else (ks.map ET.ex).all (mayE h) && (decide (nm.data.toList = []) && decide (t = 0 ∧ b = 0)))) := by
      show mayE (h + 1) (.mk op t b nm.data.toList (ET.exs ks)) = _
      rw [mayE, ET.exs_eq, List.length_map, ← hn.out, ← hK.out]
    obtain ⟨R, hR⟩ : ∃ R, Hid (R = (decide ((n : Int) = K) && (if op = 1 then litOk t b && decide (nm.data.toList = []) else if op = 2 then isNm nm.data.toList && decide (t = 0 ∧ b = 0) else (ks.map ET.ex).all (mayE h) && (decide (nm.data.toList = []) && decide (t = 0 ∧ b = 0))))) := ⟨_, (rfl : _ = _)⟩
    rw [hm, ← hR.out]
    clear hm hH
    go_enter Tryd.func10, Tryd.ntmps10
    go_wp2_with (first | ((with_reducible show wpList _ _ _ _ _ _); refine wpList_box_at rfl 29 (.tmp 0) rfl (ex5 op t b nm (.slice a n c)) rfl ?_; intro w1 hA1 hb1 hs1))
    have c0 : w1.cell? ⟨w.heap.size, 0, none⟩ = some (.int .u8 (op : Int)) := by rw [hA1.cell]; rfl
    have c1 : w1.cell? ⟨w.heap.size, 1, none⟩ = some (.int .u8 (t : Int)) := by rw [hA1.cell]; rfl
    have c2 : w1.cell? ⟨w.heap.size, 2, none⟩ = some (.int .u64 (b : Int)) := by rw [hA1.cell]; rfl
    have c3 : w1.cell? ⟨w.heap.size, 3, none⟩ = some (.string nm) := by rw [hA1.cell]; rfl
    have c4 : w1.cell? ⟨w.heap.size, 4, none⟩ = some (.slice a n c) := by rw [hA1.cell]; rfl
    have hq := eq26 t b
    by_cases hk : (n : Int) = K
    · subst hk
      have hd : decide ((n : Int) = (n : Int)) = true := by simp
      rw [hd, Bool.true_and] at hR
      clear hd
      go_quiet (first | (go_at_call 19; exact Calls.quiet_of_same (hO _)))
      clear hO
      by_cases ho1 : op = 1
      · rw [if_pos ho1] at hR
        subst ho1
        have hL := fun w hT h16 => mayLit_any t b h2 h3 w hT h16
        clear hq ih h6
        go_wp2_with fail
        refine (hL _ (hT.below (below_drN hb1 _) h16) (by show gB ≤ w1.heap.size; omega)).mono ?_
        rintro e w2 ⟨rfl, hb2⟩
        have c3' : w2.cell? ⟨w.heap.size, 3, none⟩ = some (.string nm) := by rw [((hA1.drewN nq).below hb2).cell]; rfl
        have hbb : Below w.heap.size w w2 := (below_drN hb1 _).trans (hb2.mono (by show w.heap.size ≤ w1.heap.size; omega))
        clear hb2 hA1 hb1 hL c0 c1 c2 c3 c4
        cases hM : litOk t b with
        | false =>
          rw [hM, Bool.false_and] at hR
          go_wp2
          go_ret
          exact ⟨by rw [hR.out]; rfl, hbb⟩
        | true =>
          rw [hM, Bool.true_and] at hR
          clear hM
          have hem := emp nm
          rw [← hR.out] at hem
          go_wp2
          go_ret
          exact ⟨rfl, hbb⟩
      by_cases ho2 : op = 2
      · rw [if_neg ho1, if_pos ho2] at hR
        subst ho2
        have hN := fun w => name_any nm w
        clear ih h6
        go_wp2_with fail
        refine (hN _).mono ?_
        rintro e w2 ⟨rfl, hw2⟩
        have hw2' := hw2.symm
        subst hw2'
        clear hN c0 c3 c4
        have hbb := below_drN hb1 nq
        unfold bytes
        cases hM : isNm nm.data.toList with
        | false =>
          rw [hM, Bool.false_and] at hR
          go_wp2
          go_ret
          exact ⟨by rw [hR.out]; rfl, hbb⟩
        | true =>
          rw [hM, Bool.true_and] at hR
          clear hM
          go_wp2
          go_ret
          exact ⟨by rw [hR.out, Bool.decide_and]; rfl, hbb⟩
      · rw [if_neg ho1, if_neg ho2] at hR
        have e1 : ((op : Int) == 1) = false := by rw [beq_eq_false_iff_ne]; omega
        have e2 : ((op : Int) == 2) = false := by rw [beq_eq_false_iff_ne]; omega
        have hem := emp nm
        go_wp2_with fail
        have H6 : Hid (ks = [] ∨ ∃ g o, a = some ⟨g, o, none⟩ ∧ g < B ∧ ET.Row B w g ks o) := h6
        have HB0 : Hid (Below w.heap.size w (w1.drewN nq) ∧ At 29 (w1.drewN nq) w.heap.size (ex5 op t b nm (.slice a n c))) := ⟨below_drN hb1 _, hA1.drewN _⟩
        clear h6 hb1 hA1 c0 c1 c2 c3 c4 e1 e2 ho1 ho2
        go_loopw [44] (fun j wr => ∃ i : Nat, j = .int .i64 (i : Int) ∧ i ≤ n ∧ Hid (Below w.heap.size w wr ∧ At 29 wr w.heap.size (ex5 op t b nm (.slice a n c)) ∧ ∀ x ∈ (ks.take i).map ET.ex, mayE h x = true)) (fun j _ => n - (intOf j).toNat)
        case atStart => exact ⟨0, rfl, by omega, HB0.out.1, HB0.out.2, by simp⟩
        case round =>
          obtain ⟨i, rfl, hi, hX⟩ := hrel
          by_cases hc : i < n
          · obtain ⟨k, hk⟩ : ∃ k, ks[i]? = some k := ⟨ks[i]'(by rw [← hn.out]; exact hc), by rw [List.getElem?_eq_getElem]⟩
            obtain ⟨hbw, hAr, hall⟩ := hX.out
            obtain ⟨g, o, ha, hg, hrow⟩ : ∃ g o, a = some ⟨g, o, none⟩ ∧ g < B ∧ ET.Row B w g ks o := by
              rcases H6.out with h | h
              · rw [h] at hk; simp at hk
              · exact h
            subst ha
            have hold : Old B w wr := Old.of_below hbw hBw
            obtain ⟨hrg, hkin⟩ := (ET.Row.old hold hg hrow).at i k hk
            have hb16 : gB ≤ wr.heap.size := by have := hbw.size; omega
            have HK : Hid (k.In B wr ∧ B ≤ wr.heap.size ∧ Tab wr) := ⟨hkin, by have := hbw.size; omega, hT.below hbw h16⟩
            have HY : Hid (Below w.heap.size w wr ∧ At 29 wr w.heap.size (ex5 op t b nm (.slice (some ⟨g, o, none⟩) n c)) ∧ ∀ x ∈ (ks.take i).map ET.ex, mayE h x = true) := ⟨hbw, hAr, hall⟩
            clear hX hkin hall hrow hold hbw hAr H6 HB0 hem hq
            go_wp2_with (first
              | ((with_reducible show wpList _ _ _ _ _ _); refine wpList_load_mid (P := Tryd.prog) rfl 29 (.tmp 46) rfl g (o + i * 5) (by first | rfl | (simp; done)) k.cells _ hrg Tryd.underlying29 rfl (by rw [ET.cells_len]; exact i29) ?_)
              | ((with_reducible show wpList _ _ _ _ _ _); refine wpList_alloc_at rfl 29 rfl (ex5 0 0 0 ⟨#[]⟩ (.slice none 0 0)) 5 z29 ?_; intro w2 hA2 hb2 hs2)
              | ((with_reducible show wpList _ _ _ _ _ _); refine wpList_store_at (P := Tryd.prog) rfl 29 (.tmp 6) (.tmp 47) rfl wr.heap.size k.cells rfl rfl 29 _ hA2 (by rw [ET.cells_len]; exact i29) (by rw [ET.cells_len]; rfl) k.one ?_; intro w3 hA3 hb3 hs3; refine Hid.out ?_))
            refine hidU ?_
            have hB3 : Below wr.heap.size wr w3 := hb3.below hb2 (Nat.le_refl _) (by omega)
            obtain ⟨hkin, hBwr, hTwr⟩ := HK.out
            have hk3 : k.In B w3 := hkin.old (Old.of_below hB3 hBwr)
            have hI := ih k w3 B (by omega) hk3 (by omega) (hTwr.below hB3 hb16) (by omega)
            clear hb3 hb2 hA2 HK hkin hk3 ih hTwr
            go_wp2_with (first | ((with_reducible show wpList _ _ _ _ _ _); refine wpList_load_at (P := Tryd.prog) rfl 29 (.tmp 6) rfl wr.heap.size rfl 29 k.cells hA3 _ Tryd.underlying29 rfl (by rw [ET.cells_len]; exact i29) ?_))
            refine hI.mono ?_
            rintro e w4 ⟨rfl, hb4⟩
            have HZ : Hid (Below w.heap.size w w4 ∧ At 29 w4 w.heap.size (ex5 op t b nm (.slice (some ⟨g, o, none⟩) n c)) ∧ ∀ x ∈ (ks.take i).map ET.ex, mayE h x = true) := by
              obtain ⟨q1, q2, q3⟩ := HY.out
              have hb5 : Below wr.heap.size wr w4 := hB3.trans (hb4.mono hB3.size)
              exact ⟨q1.trans (hb5.mono q1.size), q2.below hb5, q3⟩
            clear hI hb4 hB3 HY hA3 hrg
            cases hM : mayE h k.ex with
            | false =>
              have hRf : R = false := by
                rw [hR.out]
                have : (ks.map ET.ex).all (mayE h) = false := by
                  rw [List.all_eq_false]
                  exact ⟨k.ex, List.mem_map.2 ⟨k, List.mem_of_getElem? hk, rfl⟩, by rw [hM]; simp⟩
                rw [this, Bool.false_and]
              clear hM
              go_wp2
              go_ret
              exact ⟨by rw [hRf]; rfl, HZ.out.1⟩
            | true =>
              go_wp2
              go_roundw
              case rel =>
                refine ⟨i + 1, by go_num, by omega, ?_⟩
                obtain ⟨q1, q2, q3⟩ := HZ.out
                refine ⟨q1, q2, fun x hx => ?_⟩
                rw [List.take_add_one, hk, List.map_append, List.mem_append] at hx
                rcases hx with hx | hx
                · exact q3 x hx
                · simp at hx; rw [hx]; exact hM
              case measure => simp [intOf]; omega
          · have hin : i = n := by omega
            obtain ⟨q1, q2, q3⟩ := hX.out
            have hall : (ks.map ET.ex).all (mayE h) = true := by
              rw [List.all_eq_true]
              intro x hx
              apply q3 x
              rw [hin, hn.out, List.take_length]
              exact hx
            rw [hall, Bool.true_and] at hR
            have c1 : wr.cell? ⟨w.heap.size, 1, none⟩ = some (.int .u8 (t : Int)) := by rw [q2.cell]; rfl
            have c2 : wr.cell? ⟨w.heap.size, 2, none⟩ = some (.int .u64 (b : Int)) := by rw [q2.cell]; rfl
            have c3 : wr.cell? ⟨w.heap.size, 3, none⟩ = some (.string nm) := by rw [q2.cell]; rfl
            have HQ : Hid (Below w.heap.size w wr) := q1
            clear q1 q2 q3 hX hall hin H6 HB0 ih
            cases hM : decide (nm.data.toList = []) with
            | false =>
              rw [hM] at hR hem
              clear hM
              go_wp2
              go_ret
              exact ⟨by rw [hR.out]; rfl, HQ.out⟩
            | true =>
              rw [hM] at hR hem
              clear hM
              go_wp2
              go_ret
              exact ⟨by rw [hR.out, Bool.decide_and]; rfl, HQ.out⟩
    · have hk' : ((n : Int) == K) = false := by rw [beq_eq_false_iff_ne]; exact hk
      have hd : decide ((n : Int) = K) = false := by simpa using hk
      rw [hd, Bool.false_and] at hR
      clear hk hd
      go_quiet (first | (go_at_call 19; exact Calls.quiet_of_same (hO _)))
      go_wp2
      go_ret
      exact ⟨by rw [hR.out]; rfl, below_drN hb1 _⟩

end Go.Proofs.YtcmahiphfpgadaaDoor
