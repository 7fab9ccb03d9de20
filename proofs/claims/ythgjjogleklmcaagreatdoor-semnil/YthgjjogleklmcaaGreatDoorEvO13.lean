/- The reckoner: part EvO13. -/
import Derived.Test.YthgjjogleklmcaaGreatDoorEvO12
namespace Go.Proofs.YthgjjogleklmcaaGreatDoor.Ev
open Go.RowKit
set_option linter.unusedVariables false
section
variable {P : Tb} {w0 : Base} {E : Env} {H H' : St} {w : World} {s : Lc} {L : Ls} {a : Act} {o : Oper} {v c d : Value}

/-! ### len, copy, append -/
theorem EntsR.length {es cs : List MapEntry} (h : EntsR E es cs) : es.length = cs.length := by
  induction h with
  | nil => rfl
  | cons _ _ ih => rw [List.length_cons, List.length_cons, ih]
theorem lenD_ok {Q : Program} {u : TypeDesc} {t ty : TypeId} (hR : Rep P.P w0 E H w) (hu : Q.underlying t = some u) {x : Value} (hx : VR E x c) {ts : Array TypeId} {args : Array Value} (ht : ts[0]? = some t) (hc : args[0]? = some c)
    (h : lenD H u x = .ok v H') : H' = H ∧ plain v = true ∧ (Builtin.len_ ts ty args).run Q w = .ok v w := by
  unfold lenD at h
  split at h
  · obtain ⟨rfl, rfl⟩ := ok_inj h
    obtain rfl := hx.plain rfl
    rename_i z
    have : z.data.toList.length = z.size := Array.length_toList
    exact ⟨rfl, rfl, by simp [Builtin.len_, ht, hc, run_underlying hu, goInt]⟩
  · obtain ⟨rfl, rfl⟩ := ok_inj h
    rename_i p n k
    have : ∃ q k', c = .slice q n k' := by
      cases p with
      | none => exact ⟨_, _, hx.plain rfl⟩
      | some b => obtain ⟨B, k', rfl, _⟩ := hx.slice_inv; exact ⟨_, _, rfl⟩
    obtain ⟨q, k', rfl⟩ := this
    exact ⟨rfl, rfl, by simp [Builtin.len_, ht, hc, run_underlying hu, goInt]⟩
  · obtain ⟨rfl, rfl⟩ := ok_inj h
    obtain rfl := hx.plain rfl
    exact ⟨rfl, rfl, by simp [Builtin.len_, ht, hc, run_underlying hu, goInt]⟩
  · obtain ⟨bk, h1, h⟩ := osel_did h (by simp)
    obtain ⟨B, rfl, hB⟩ := hx.map_inv
    obtain ⟨B', ob, hB', hob, hbl⟩ := hR.blk _ _ h1
    rw [hB] at hB'; cases hB'
    cases bk with
    | map es clock =>
      obtain ⟨rfl, rfl⟩ := ok_inj h
      obtain ⟨cs, rfl, hes⟩ := hbl
      have hl : es.length = cs.length := hes.length
      exact ⟨rfl, rfl, by simp [Builtin.len_, ht, hc, run_underlying hu, getObj, Sem.run, hob, goInt, hl]⟩
    | _ => cases h
  · cases h

theorem lenVal_ok {Q : Program} {x : Value} (hx : VR E x c) {n : Nat} (h : lenVal x = some n) (w : World) : (Builtin.lenOf c).run Q w = .ok n w := by
  cases x with
  | slice p m k =>
    cases h
    cases p with
    | none => rw [hx.plain rfl]; rfl
    | some b => obtain ⟨B, k', rfl, _⟩ := hx.slice_inv; rfl
  | string z =>
    cases h
    rw [hx.plain rfl]
    have : z.data.toList.length = z.size := Array.length_toList
    rw [this]; rfl
  | _ => cases h

/-- the first elements of a row, or the first bytes of a text -/
theorem firstN_ok (hR : Rep P.P w0 E H w) {size n : Nat} {x : Value} (hx : VR E x c) {m : Nat} (hn : lenVal x = some m) (hle : n ≤ m) {l : List Value} (h : firstN H size n x = some l) :
    ∃ cl : List Value, VRL E l cl ∧ cl.length = n * size ∧ ∀ w', w'.heap = w.heap → (Builtin.firstCells size n c).run P.P w' = .ok cl.toArray w' := by
  unfold firstN at h
  cases hb : Nat.beq n 0 with
  | true =>
    rw [hb, bsel_t] at h
    cases h
    have : n = 0 := Nat.eq_of_beq_eq_true hb
    subst this
    refine ⟨[], .nil, by simp, fun w' _ => ?_⟩
    cases x with
    | slice p m k =>
      cases p with
      | none => rw [hx.plain rfl]; simp [Builtin.firstCells]
      | some b => obtain ⟨B, k', rfl, _⟩ := hx.slice_inv; simp [Builtin.firstCells, loadCells, loadCellsFrom]
    | string z => rw [hx.plain rfl]; simp [Builtin.firstCells]
    | _ => cases hn
  | false =>
    rw [hb, bsel_f] at h
    cases x with
    | slice p m k =>
      cases p with
      | none => cases h
      | some b =>
        obtain ⟨h1, h⟩ := bsel_opt h
        obtain ⟨bk, h2, h⟩ := osel_opt h
        obtain ⟨B, k', rfl, hB, _⟩ := hx.slice_inv
        obtain ⟨B', ob, hB', hob, hbl⟩ := hR.blk _ _ h2
        rw [hB] at hB'; cases hB'
        cases bk with
        | cells e' m dd ct g fz st ro =>
          obtain ⟨C, fr, rfl, hrow⟩ := hbl
          obtain ⟨h3, cl, h4, h5, h6, h7⟩ := hrow.range h
          refine ⟨cl, h4, h5, fun w' hw => ?_⟩
          rw [noSpot_iff h1]
          have hob' : w'.heap[B]? = some (.cells C e' fr) := by rw [hw]; exact hob
          simp only [Builtin.firstCells]
          exact range_load (range_cell hob' h5 h6) h5
        | _ => cases h
    | string z =>
      obtain ⟨h1, h⟩ := bsel_opt h
      obtain rfl := Option.some.inj h
      have h1 : size = 1 := Nat.eq_of_beq_eq_true h1
      subst h1
      cases hn
      have hlen : z.data.toList.length = z.data.size := Array.length_toList
      refine ⟨_, VRL.of_plain E _ ?_, ?_, fun w' _ => ?_⟩
      · have : ∀ l : List UInt8, plainL (l.map byteV) = true := fun l => by
          induction l with
          | nil => rfl
          | cons b r ih => simp only [List.map_cons, plainL]; rw [show plain (byteV b) = true from rfl, bsel_t]; exact ih
        exact this _
      · rw [List.length_map, List.length_take]; omega
      · rw [hx.plain rfl]
        simp only [Builtin.firstCells, Sem.run_pure, extract_eq]
        congr 1
        apply Array.ext'
        simp only [List.drop_zero, Nat.sub_zero, Array.toList_map, List.map_take]
        rfl
    | _ => cases h

theorem copyTo_ok (hR : Rep P.P w0 E H w) {n : Nat} {l cl : List Value} (hv : VRL E l cl) (h1 : allL oneCell l = true) {x : Value} (hx : VR E x c) (h : copyTo H n l x = .ok v H') :
    v = .int .i64 (n : Int) ∧ ∃ q m k w', c = .slice q m k ∧ Rep P.P w0 E H' w' ∧ (match q with | some b => storeCells b cl | none => pure ()).run P.P w = .ok () w' := by
  cases x with
  | slice p m k =>
    cases p with
    | none =>
      obtain ⟨rfl, rfl⟩ := ok_inj h
      exact ⟨rfl, _, _, _, w, hx.plain rfl, hR, rfl⟩
    | some b =>
      obtain ⟨B, k', rfl, hB, _⟩ := hx.slice_inv
      refine ?_
      change bsel (Nat.beq l.length 0) _ _ = _ at h
      cases hl : Nat.beq l.length 0 with
      | true =>
        rw [hl, bsel_t] at h
        obtain ⟨rfl, rfl⟩ := ok_inj h
        have : l.length = 0 := Nat.eq_of_beq_eq_true hl
        have : cl = [] := List.length_eq_zero_iff.1 (by rw [← hv.length]; exact this)
        subst this
        exact ⟨rfl, _, _, _, w, rfl, hR, rfl⟩
      | false =>
        rw [hl, bsel_f] at h
        obtain ⟨h2, h⟩ := bsel_did h (by simp)
        obtain ⟨bk, h3, h⟩ := osel_did h (by simp)
        cases hs : storeB H b.block b.off l bk with
        | ok u H2 =>
          rw [hs] at h
          obtain ⟨rfl, rfl⟩ := ok_inj h
          obtain ⟨rfl, h8, h9, _⟩ := storeB_ok hR h3 hB hv hs
          have hone : ∀ u ∈ cl, u.oneCell' = true := fun u hu => by
            have h6 := allL_mem h1
            obtain ⟨n, hn⟩ := List.getElem?_of_mem hu
            have hlt := (List.getElem?_eq_some_iff.1 hn).1
            have hlt2 : n < l.length := by rw [hv.length]; exact hlt
            obtain ⟨c, g3, g4⟩ := hv.get n _ (List.getElem?_eq_getElem hlt2)
            rw [hn] at g3; cases g3
            exact oneCell_VR g4 (h6 _ (List.getElem_mem hlt2))
          have hst := run_storeCells_cells (P := P.P) B b.off cl 0 w (fun j hj => by simpa using (h8 j hj).1) (fun j hj => by simpa using (h8 j hj).2) hone
          rw [Nat.add_zero] at hst
          refine ⟨rfl, _, _, _, _, rfl, h9, ?_⟩
          rw [noSpot_iff h2]
          exact hst
        | _ => rw [hs] at h; cases h
  | _ => cases h
end
end Go.Proofs.YthgjjogleklmcaaGreatDoor.Ev
