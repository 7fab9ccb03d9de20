/- The reckoner: part EvO15. -/
import Derived.Test.YthgjjogleklmcaaGreatDoorEvO14
namespace Go.Proofs.YthgjjogleklmcaaGreatDoor.Ev
open Go.RowKit
set_option linter.unusedVariables false
section
variable {P : Tb} {w0 : Base} {E : Env} {H H' : St} {w : World} {s : Lc} {L : Ls} {a : Act} {o : Oper} {v c d : Value}

/-- a row is made anew, of what was there and what is appended -/
theorem grow_ok (hR : Rep P.P w0 E H w) {t tx ty e : TypeId} {i : TyI} (hu : P.P.underlying t = some (.slice e)) (hi : TyOk P.P e i) {z : List Value} (hz : i.zero = some z) {base : Option Addr} {sLen cap' n : Nat} {old ol l cl : List Value}
    (ho : VRL E old ol) (hol : ol.length = sLen * i.size) (hold : ∀ w' : World, w'.heap = w.heap → (Builtin.firstCells i.size sLen (.slice base sLen cap')).run P.P w' = .ok ol.toArray w')
    (hv : VRL E l cl) {x : Value} (hs : Src P.P i.size tx x n cl w) (hg : cap' < sLen + n) (hb : (sLen + n) * (i.bytes + 1) ≤ 1000000000) (h : freshSlice H e (old ++ l) (sLen + n) = .ok v H') :
    ∃ E' w' c', E.le E' ∧ Rep P.P w0 E' H' w' ∧ VR E' v c' ∧ (Builtin.append_ #[t, tx] ty #[.slice base sLen cap', x]).run P.P w = .ok c' w' := by
  obtain ⟨j, g1, g2, g3, g4⟩ := hi.info
  obtain ⟨zv, g5, g6, g7, g8, _⟩ := g4 z hz
  rw [Nat.mul_add, Nat.mul_one] at hb
  have hfit : Builtin.nextslicecap (sLen + n) cap' * j.bytes ≤ 281474976710656 := by
    have h1 := nextslicecap_le hg
    have h2 : Builtin.nextslicecap (sLen + n) cap' * j.bytes ≤ 2 * (sLen + n) * j.bytes := Nat.mul_le_mul_right _ h1
    rw [g3] at h2 ⊢
    rw [Nat.mul_assoc] at h2
    omega
  have hrun := run_append_grow_src (P := P.P) (w := w) t tx ty e j zv hu g1 g5 base sLen cap' ol (by rw [g2]; exact hold _ rfl) x n cl (by rw [g2]; exact hs) hg (by omega) hfit
  have hcl := hs.newsLen
  obtain ⟨E', h8, h9, h10⟩ := freshSlice_ok hR hi (ho.append hv) (n := sLen + n) (cp := grownCap w (sLen + n) cap' e) (by rw [List.length_append, hol, hcl, Nat.add_mul]) (grownCap_ge w _ _ e)
    (z := Builtin.zeroCells zv.cells (grownCap w (sLen + n) cap' e - (sLen + n))) (by
      have : zv.cells.size = i.size := by rw [← Array.length_toList, g6]; exact g8
      simp [Builtin.zeroCells, this]) h
  exact ⟨E', _, _, h8, h9, h10, hrun⟩

theorem growTree_get {cs : BT Value} {dd n i : Nat} {u : Value} (h : (growTree cs dd n).1.get i = some u) : cs.get i = some u := by
  unfold growTree at h
  cases h1 : Nat.ble n (Nat.pow 2 dd) with
  | true => rw [h1, bsel_t] at h; exact h
  | false =>
    rw [h1, bsel_f] at h
    cases h2 : Nat.ble n (Nat.pow 2 (Nat.succ dd)) with
    | true =>
      rw [h2, bsel_t, BT.get_node] at h
      cases h3 : Nat.ble (Nat.pow 2 dd) i with
      | true => rw [h3, bsel_t, BT.get_mk] at h; cases h
      | false => rw [h3, bsel_f] at h; exact h
    | false => rw [h2, bsel_f] at h; exact h

theorem moveGrown_ok (K : TbOk P) (hR : Rep P.P w0 E H w) {t tx ty e : TypeId} {i : TyI} (hu : P.P.underlying t = some (.slice e)) (hi : TyOk P.P e i) {z : List Value} (hz : i.zero = some z) {b : Addr} {B sLen cap' n : Nat} {bk : Blk}
    (hB : E.bl b.block = some B) (hb : H.tr.get b.block = some bk) (hcap : cap' = E.cp b.block) (hpos : 1 ≤ i.size)
    {l cl : List Value} (hv : VRL E l cl) (h1 : allL oneCell l = true) {x : Value} (hs : Src P.P i.size tx x n cl w) (hbt : (sLen + n) * (i.bytes + 1) ≤ 1000000000)
    (h : moveGrown H b e sLen n i.size l bk = .ok v H') :
    ∃ E' w' c', E.le E' ∧ Rep P.P w0 E' H' w' ∧ VR E' v c' ∧ (Builtin.append_ #[t, tx] ty #[.slice (some ⟨B, 0, none⟩) sLen cap', x]).run P.P w = .ok c' w' := by
  obtain ⟨B', ob, hB', hob, hbl⟩ := hR.blk _ _ hb
  rw [hB] at hB'; cases hB'
  cases bk with
  | cells e' k dd cs g fz st ro =>
    obtain ⟨C, fr, rfl, hrow⟩ := hbl
    obtain ⟨q1, h⟩ := bsel_did h (by simp)
    obtain ⟨q2, h⟩ := bsel_didN h (by simp)
    obtain ⟨q3, h⟩ := bsel_did h (by simp)
    obtain ⟨q4, h⟩ := bsel_did h (by simp)
    obtain ⟨q5, h⟩ := bsel_did h (by simp)
    obtain ⟨q6, h⟩ := bsel_did h (by simp)
    obtain ⟨rfl, rfl⟩ := ok_inj h
    have q3 : e = e' := Nat.eq_of_beq_eq_true q3
    subst q3
    have q4 : sLen * i.size ≤ k := Nat.le_of_ble_eq_true q4
    have q5 : k ≤ (sLen + n) * i.size := Nat.le_of_ble_eq_true q5
    have q6 : fz ≤ sLen * i.size := Nat.le_of_ble_eq_true q6
    obtain ⟨j, g1, g2, g3, g4⟩ := hi.info
    obtain ⟨zv, g5, g6, g7, g8, _⟩ := g4 z hz
    have hcs : cellsOf P.P e = i.size := by simp [cellsOf, g1, g2]
    have hgr := hrow.grown q1
    rw [hcs, ← hcap] at hgr
    have hle := hrow.le
    have hcl := hs.newsLen
    have hl := hv.length
    have hn := hR.fresh H.next (Nat.le_refl _)
    by_cases hroom : sLen + n ≤ cap'
    · -- it stays where it is
      have hfit : (sLen + n) * i.size ≤ C.size := by rw [hgr]; exact Nat.mul_le_mul_right _ hroom
      have hfit2 : sLen * i.size + n * i.size = (sLen + n) * i.size := (Nat.add_mul _ _ _).symm
      have hth : w.there B (sLen * i.size) cl.length := there_of hob (by omega) q6 (hrow.free q2)
      have hrun := run_append_room_src (P := P.P) (w := w) t tx ty e j hu g1 B 0 sLen cap' x n cl (by rw [g2]; exact hs) hroom (fun q hq => by rw [g2, Nat.zero_add]; exact (hth q hq).1) (fun q hq => by rw [g2, Nat.zero_add]; exact (hth q hq).2)
      rw [g2, Nat.zero_add] at hrun
      have hle2 := Env.le_with (E := E) (B := B) (c := cap') hn
      refine ⟨E.with H.next B cap', _, _, hle2, hR.rename hb hB q2 (only_setCells cl _ w B) (heap_setCells cl _ w hob) ⟨setA C (sLen * i.size) cl, fr, rfl, ?_⟩, .slice Env.with_bl (capSym Env.with_bl Env.with_cp), hrun⟩
      refine ⟨by rw [setA_size]; exact hfit, (fun h => nomatch h), fun _ => by rw [setA_size, Env.with_cp, hcs]; exact hgr, fun q u hq => ?_, fun q u hq => ?_, fun hr q h5 h6 => hrow.free q2 q h5 (by rwa [setA_size] at h6), hrow.mark⟩
      · rcases BT.get_putL l _ _ q u hq with ⟨h5, h6⟩ | ⟨h5, h6⟩
        · have h6 : l[q - sLen * i.size]? = some u := h6
          have := (List.getElem?_eq_some_iff.1 h6).1
          show q < (sLen + n) * i.size
          have h5 : sLen * i.size ≤ q := h5
          omega
        · have := hrow.bound q u (growTree_get h6)
          show q < (sLen + n) * i.size
          omega
      · rw [setA_get]
        rcases BT.get_putL l _ _ q u hq with ⟨h5, h6⟩ | ⟨h5, h6⟩
        · have h5 : sLen * i.size ≤ q := h5
          obtain ⟨c, h7, h8⟩ := hv.get _ _ h6
          have h7 : cl[q - sLen * i.size]? = some c := h7
          have := (List.getElem?_eq_some_iff.1 h7).1
          rw [if_pos (by omega)]
          exact ⟨c, h7, h8.mono hle2⟩
        · have h5 : ¬ (sLen * i.size ≤ q ∧ q < sLen * i.size + l.length) := h5
          rw [if_neg (by omega)]
          obtain ⟨c, h7, h8⟩ := hrow.cells q u (growTree_get h6)
          exact ⟨c, h7, h8.mono hle2⟩
    · -- it moves
      have hroom : cap' < sLen + n := by omega
      have hfit2 : sLen * i.size + n * i.size = (sLen + n) * i.size := (Nat.add_mul _ _ _).symm
      have hol : (C.toList.take (sLen * i.size)).length = sLen * i.size := by rw [List.length_take, Array.length_toList]; omega
      have hrange : w.rangeAt B 0 (C.toList.take (sLen * i.size)) := range_cell hob hol fun q hq => by rw [List.getElem?_take_of_lt hq, Array.getElem?_toList, Nat.zero_add]
      rw [Nat.mul_add, Nat.mul_one] at hbt
      have hfit : Builtin.nextslicecap (sLen + n) cap' * j.bytes ≤ 281474976710656 := by
        have h1 := nextslicecap_le hroom
        have h2 : Builtin.nextslicecap (sLen + n) cap' * j.bytes ≤ 2 * (sLen + n) * j.bytes := Nat.mul_le_mul_right _ h1
        rw [g3] at h2 ⊢
        rw [Nat.mul_assoc] at h2
        omega
      have hold : (Builtin.firstCells j.size sLen (.slice (some ⟨B, 0, none⟩) sLen cap')).run P.P w.drew = .ok (C.toList.take (sLen * i.size)).toArray w.drew := by
        simp only [Builtin.firstCells, g2]
        exact range_load (w := w.drew) hrange hol
      have hrun := run_append_grow_src (P := P.P) (w := w) t tx ty e j zv hu g1 g5 (some ⟨B, 0, none⟩) sLen cap' (C.toList.take (sLen * i.size)) hold x n cl (by rw [g2]; exact hs) hroom (by omega) hfit
      have hzs : zv.cells.size = i.size := by rw [← Array.length_toList, g6]; exact g8
      have hge := grownCap_ge w (sLen + n) cap' e
      have hsize : ((C.toList.take (sLen * i.size) ++ cl).toArray ++ Builtin.zeroCells zv.cells (grownCap w (sLen + n) cap' e - (sLen + n))).size = grownCap w (sLen + n) cap' e * i.size := by
        simp only [Array.size_append, List.size_toArray, List.length_append, hol, hcl, Builtin.zeroCells, Array.size_map, Array.size_range, hzs]
        rw [hfit2, ← Nat.add_mul]; congr 1; omega
      have hle2 := Env.le_with (E := E) (B := w.drew.heap.size) (c := grownCap w (sLen + n) cap' e) hn
      have hin : ∀ q, q < (sLen + n) * i.size → ((C.toList.take (sLen * i.size) ++ cl).toArray ++ Builtin.zeroCells zv.cells (grownCap w (sLen + n) cap' e - (sLen + n)))[q]? = (C.toList.take (sLen * i.size) ++ cl)[q]? := fun q hq => by
        rw [Array.getElem?_append_left (by simp only [List.size_toArray, List.length_append, hol, hcl]; omega)]
        simp
      refine ⟨_, _, _, hle2, ((hR.drop b.block).drew).new (H := ⟨H.next, H.tr.put b.block none⟩) (o := .cells _ e) ⟨_, (0, 0), rfl, ?_⟩, .slice Env.with_bl (capSym Env.with_bl Env.with_cp), hrun⟩
      refine ⟨by rw [hsize]; exact Nat.mul_le_mul_right _ hge, (fun h => nomatch h), fun _ => by rw [Env.with_cp, hcs]; exact hsize, fun q u hq => ?_, fun q u hq => ?_, fun _ q _ _ => by simp, fun _ => .inl rfl⟩
      · rcases BT.get_putL l _ _ q u hq with ⟨h5, h6⟩ | ⟨h5, h6⟩
        · have h6 : l[q - sLen * i.size]? = some u := h6
          have := (List.getElem?_eq_some_iff.1 h6).1
          show q < (sLen + n) * i.size
          have h5 : sLen * i.size ≤ q := h5
          omega
        · have := hrow.bound q u (growTree_get h6)
          show q < (sLen + n) * i.size
          omega
      · rcases BT.get_putL l _ _ q u hq with ⟨h5, h6⟩ | ⟨h5, h6⟩
        · have h5 : sLen * i.size ≤ q := h5
          obtain ⟨c, h7, h8⟩ := hv.get _ _ h6
          have h7 : cl[q - sLen * i.size]? = some c := h7
          have := (List.getElem?_eq_some_iff.1 h7).1
          refine ⟨c, ?_, h8.mono hle2⟩
          rw [hin q (by omega), List.getElem?_append_right (by omega), hol]
          exact h7
        · have h5 : ¬ (sLen * i.size ≤ q ∧ q < sLen * i.size + l.length) := h5
          have hb2 := hrow.bound q u (growTree_get h6)
          obtain ⟨c, h7, h8⟩ := hrow.cells q u (growTree_get h6)
          refine ⟨c, ?_, h8.mono hle2⟩
          rw [hin q (by omega), List.getElem?_append_left (by omega), List.getElem?_take_of_lt (by omega), Array.getElem?_toList]
          exact h7
  | _ => cases h
end
end Go.Proofs.YthgjjogleklmcaaGreatDoor.Ev
