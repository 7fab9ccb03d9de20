/- The reckoner: part EvO14. -/
import Derived.Test.YthgjjogleklmcaaGreatDoorEvO13
namespace Go.Proofs.YthgjjogleklmcaaGreatDoor.Ev
open Go.RowKit
set_option linter.unusedVariables false
section
variable {P : Tb} {w0 : Base} {E : Env} {H H' : St} {w : World} {s : Lc} {L : Ls} {a : Act} {o : Oper} {v c d : Value}

theorem ones {l cl : List Value} (hv : VRL E l cl) (h1 : allL oneCell l = true) : ∀ u ∈ cl, u.oneCell' = true := fun u hu => by
  have h6 := allL_mem h1
  obtain ⟨n, hn⟩ := List.getElem?_of_mem hu
  have hlt := (List.getElem?_eq_some_iff.1 hn).1
  have hlt2 : n < l.length := by rw [hv.length]; exact hlt
  obtain ⟨c, g3, g4⟩ := hv.get n _ (List.getElem?_eq_getElem hlt2)
  rw [hn] at g3; cases g3
  exact oneCell_VR g4 (h6 _ (List.getElem_mem hlt2))

/-- where an appended row lies anew -/
theorem freshSlice_ok (hR : Rep P.P w0 E H w) {e : TypeId} {i : TyI} (hi : TyOk P.P e i) {vs cs : List Value} (hv : VRL E vs cs) {n cp : Nat} (hlen : cs.length = n * i.size) (hcp : n ≤ cp) {z : Array Value} (hz : z.size = (cp - n) * i.size)
    (h : freshSlice H e vs n = .ok v H') :
    ∃ E', E.le E' ∧ Rep P.P w0 E' H' (w.drew.alloc (.cells (cs.toArray ++ z) e)) ∧ VR E' v (.slice (some ⟨w.heap.size, 0, none⟩) n cp) := by
  obtain ⟨rfl, rfl⟩ := ok_inj h
  obtain ⟨j, g1, g2, _⟩ := hi.typeInfo
  have hcs : cellsOf P.P e = i.size := by simp [cellsOf, g1, g2]
  have hl := hv.length
  obtain ⟨h8, h9, h10⟩ := hR.drew.row (elem := e) (vs := vs) (C := cs.toArray ++ z) (fr := (0, 0)) (g := true) (st := false) (n := vs.length) (cp := cp) (dd := depthOf vs.length)
    (by simp; omega) (Nat.le_refl _) (fun i u hu => by
      obtain ⟨c, h1, h2⟩ := hv.get i u hu
      have := (List.getElem?_eq_some_iff.1 h1).1
      exact ⟨c, by rw [Array.getElem?_append_left (by simpa using this)]; simpa using h1, h2⟩) (fun h => by cases h)
    (fun _ => by
      simp only [Array.size_append, List.size_toArray, hlen, hz, hcs]
      rw [← Nat.add_mul]; congr 1; omega) (fun i _ => by simp) (fun _ => rfl)
  exact ⟨_, h8, h9, .slice h10 (capSym h10 Env.with_cp)⟩

/-- the row stays where it is, and is written behind its end -/
theorem appendTo_ok (K : TbOk P) (hR : Rep P.P w0 E H w) {t tx ty e : TypeId} {i : TyI} (hu : P.P.underlying t = some (.slice e)) (hi : TyOk P.P e i) {b : Addr} {B sLen cap cap' n : Nat} {bk : Blk} (hB : E.bl b.block = some B) (hb : H.tr.get b.block = some bk) (hsp : b.spot = none)
    (hcap : CapR E cap cap') {l cl : List Value} (hv : VRL E l cl) (h1 : allL oneCell l = true) {x : Value} (hs : Src P.P i.size tx x n cl w) (hroom : sLen + n ≤ cap')
    (h : appendTo H b sLen cap n i.size l bk = .ok v H') :
    ∃ E' w' c', E.le E' ∧ Rep P.P w0 E' H' w' ∧ VR E' v c' ∧ (Builtin.append_ #[t, tx] ty #[.slice (some ⟨B, b.off, none⟩) sLen cap', x]).run P.P w = .ok c' w' := by
  unfold appendTo at h
  cases hst : storeB H b.block (Nat.add b.off (Nat.mul sLen i.size)) l bk with
  | ok u H2 =>
    rw [hst] at h
    obtain ⟨rfl, rfl⟩ := ok_inj h
    obtain ⟨_, h8, h9, _⟩ := storeB_ok hR hb hB hv hst
    obtain ⟨j, g1, g2, g3⟩ := hi.typeInfo
    have hrun := run_append_room_src (P := P.P) (w := w) t tx ty e j hu g1 B b.off sLen cap' x n cl (by rw [g2]; exact hs) hroom (fun q hq => by rw [g2]; exact (h8 q hq).1) (fun q hq => by rw [g2]; exact (h8 q hq).2)
    rw [g2] at hrun
    refine ⟨E, _, _, .refl E, h9, ?_, hrun⟩
    rw [← hsp]
    exact .slice hB hcap
  | _ => rw [hst] at h; cases h
end
end Go.Proofs.YthgjjogleklmcaaGreatDoor.Ev
