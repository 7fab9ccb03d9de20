/- The reckoner: part EvO9. -/
import Derived.Test.YthgjjogleklmcaaGreatDoorEvO8
namespace Go.Proofs.YthgjjogleklmcaaGreatDoor.Ev
open Go.RowKit
set_option linter.unusedVariables false
section
variable {P : Tb} {w0 : Base} {E : Env} {H H' : St} {w : World} {s : Lc} {L : Ls} {a : Act} {o : Oper} {v c d : Value}

/-! ### stores -/
theorem oneCell_VR {x : Value} (h : VR E x c) (hx : oneCell x = true) : c.oneCell' = true := by
  cases h with
  | hole => cases hx
  | flat hf => cases c <;> first | rfl | (cases hf; done) | (cases hx; done)
  | agg _ => cases hx
  | tuple _ => cases hx
  | _ => rfl
theorem frozen_at {B : Nat} {C : Array Value} {el : TypeId} {fr : Nat × Nat} (hb : w.heap[B]? = some (.cells C el fr)) (i : Nat) : w.frozen? ⟨B, i, none⟩ = decide (fr.1 ≤ i ∧ i < fr.2) := by
  simp [World.frozen?, hb]
theorem there_of {B : Nat} {C : Array Value} {el : TypeId} {fr : Nat × Nat} (hb : w.heap[B]? = some (.cells C el fr)) {off n fz : Nat} (hn : off + n ≤ C.size) (hf : fz ≤ off) (hfree : ∀ i, fz ≤ i → i < C.size → ¬ (fr.1 ≤ i ∧ i < fr.2)) :
    w.there B off n := fun j hj => by
  refine ⟨?_, ?_⟩
  · simp [World.cell?, hb, show off + j < C.size by omega]
  · rw [frozen_at hb, decide_eq_false_iff_not]
    exact hfree _ (by omega) (by omega)

/-- cells of a row are written -/
theorem storeB_ok (hR : Rep P.P w0 E H w) {b B off : Nat} {k : Blk} (hk : H.tr.get b = some k) (hB : E.bl b = some B) {vs cs : List Value} (hv : VRL E vs cs)
    (h : storeB H b off vs k = .ok v H') :
    v = .tuple #[] ∧ w.there B off cs.length ∧ Rep P.P w0 E H' (w.setCells B off cs) ∧ H'.next = H.next ∧ ∃ C el fr, w.heap[B]? = some (.cells C el fr) := by
  obtain ⟨B', ob, hB', hob, hbl⟩ := hR.blk b k hk
  rw [hB] at hB'; cases hB'
  cases k with
  | cells elem n dd ct g fz st ro =>
    obtain ⟨C, fr, rfl, hrow⟩ := hbl
    obtain ⟨h1, h⟩ := bsel_didN h (by simp)
    obtain ⟨h2, h⟩ := bsel_did h (by simp)
    obtain ⟨h3, h⟩ := bsel_did h (by simp)
    obtain ⟨rfl, rfl⟩ := ok_inj h
    have h2 : off + vs.length ≤ n := Nat.le_of_ble_eq_true h2
    have h3 : fz ≤ off := Nat.le_of_ble_eq_true h3
    have hl := hv.length
    have hle := hrow.le
    refine ⟨rfl, there_of hob (by omega) h3 (hrow.free h1), ?_, rfl, C, elem, fr, hob⟩
    refine hR.set hk hB h1 (only_setCells cs off w B) (heap_setCells cs off w hob) ⟨_, fr, rfl, ?_⟩
    refine ⟨by rw [setA_size]; exact hle, fun hg => by rw [setA_size]; exact hrow.exact hg, fun hg => by rw [setA_size]; exact hrow.grown hg, fun i u hu => ?_, fun i u hu => ?_, fun hr i h5 h6 => hrow.free hr i h5 (by rwa [setA_size] at h6), hrow.mark⟩
    · rcases BT.get_putL vs off ct i u hu with ⟨h5, h6⟩ | ⟨h5, h6⟩
      · have := (List.getElem?_eq_some_iff.1 h6).1; omega
      · exact hrow.bound i u h6
    rw [setA_get]
    rcases BT.get_putL vs off ct i u hu with ⟨h5, h6⟩ | ⟨h5, h6⟩
    · obtain ⟨c, h7, h8⟩ := hv.get _ _ h6
      have := (List.getElem?_eq_some_iff.1 h7).1
      rw [if_pos (by omega)]
      exact ⟨c, h7, h8⟩
    · rw [if_neg (by omega)]
      exact hrow.cells i u h6
  | _ => cases h

theorem xStore_ok (K : TbOk P) (hR : Rep P.P w0 E H w) {t : TypeId} {x y : Operand} (hS : LocR E s L a) (hop : o.op = .store t x y) (h : xStore t x y P s L H o = .ok v H') : Acted P w0 E H' w o a v := by
  obtain ⟨u, h1, h⟩ := osel_did h (by simp)
  obtain ⟨b, rfl, h⟩ := withAddr_ok h (by simp)
  obtain ⟨z, h2, h⟩ := osel_did h (by simp)
  obtain ⟨B, hB, hx⟩ := (hS x _ h1).pointer_inv
  have hz := cellsL_VR (hS y z h2)
  obtain ⟨h3, h⟩ := bsel_did h (by simp)
  obtain ⟨i, h4, h⟩ := osel_did h (by simp)
  obtain ⟨h5, h⟩ := bsel_did h (by simp)
  obtain ⟨h6, h⟩ := bsel_did h (by simp)
  obtain ⟨k, h7, h⟩ := osel_did h (by simp)
  obtain ⟨rfl, h8, h9, h10, C, el, fr, h11⟩ := storeB_ok hR h7 hB hz h
  refine ⟨E, _, undef, .skip, .refl E, h9, .tuple .nil, .inr ⟨rfl, rfl⟩, ?_⟩
  obtain ⟨j, g1, g2, _⟩ := (K.ty t i h4).typeInfo
  have hsz : (a.eval y).cells.size = i.size := by
    have e1 : (a.eval y).cells.toList.length = (a.eval y).cells.size := Array.length_toList
    have e2 : (cellsL z).length = i.size := Nat.eq_of_beq_eq_true h5
    have := hz.length; omega
  have hone : ∀ u ∈ (a.eval y).cells.toList, u.oneCell' = true := by
    have h6 := allL_mem h6
    intro u hu
    obtain ⟨n, hn⟩ := List.getElem?_of_mem hu
    have hlt := (List.getElem?_eq_some_iff.1 hn).1
    have hlt2 : n < (cellsL z).length := by rw [hz.length]; exact hlt
    obtain ⟨c, g3, g4⟩ := hz.get n _ (List.getElem?_eq_getElem hlt2)
    rw [hn] at g3; cases g3
    have g5 := h6 _ (List.getElem_mem hlt2)
    exact oneCell_VR g4 g5
  have hst := run_storeCells_cells (P := P.P) B b.off (a.eval y).cells.toList 0 w (fun j hj => by simpa using (h8 j hj).1) (fun j hj => by simpa using (h8 j hj).2) hone
  rw [Nat.add_zero] at hst
  simp [execOp, hop, hx, noSpot_iff h3, Instr.storeAt, Instr.sureAddr, storeVar, Go.sizeOf, Go.typeInfo, g1, g2, hsz, hst]
end
end Go.Proofs.YthgjjogleklmcaaGreatDoor.Ev
