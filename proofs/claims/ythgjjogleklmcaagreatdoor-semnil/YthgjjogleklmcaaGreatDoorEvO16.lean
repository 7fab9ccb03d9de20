/- The reckoner: part EvO16. -/
import Derived.Test.YthgjjogleklmcaaGreatDoorEvO15
namespace Go.Proofs.YthgjjogleklmcaaGreatDoor.Ev
open Go.RowKit
set_option linter.unusedVariables false
section
variable {P : Tb} {w0 : Base} {E : Env} {H H' : St} {w : World} {s : Lc} {L : Ls} {a : Act} {o : Oper} {v c d : Value}

theorem nth_arr {α : Type} {ts : Array α} {n : Nat} {t : α} (h : nth ts.toList n = some t) : ts[n]? = some t := by
  rw [nth_eq] at h; simpa using h
theorem srcT_ok (K : TbOk P) {ts : Array TypeId} (h : srcT P (nth ts.toList 1) = true) : ∃ tx, ts[1]? = some tx ∧ ((∃ e', P.P.underlying tx = some (.slice e')) ∨ P.P.underlying tx = some .string) := by
  unfold srcT at h
  cases h1 : nth ts.toList 1 with
  | none => rw [h1] at h; cases h
  | some tx =>
    rw [h1, osel_s] at h
    cases h2 : P.ty.get tx with
    | none => rw [h2] at h; cases h
    | some i =>
      rw [h2, osel_s] at h
      have hu := (K.ty tx i h2).under
      refine ⟨tx, nth_arr h1, ?_⟩
      cases hd : i.under with
      | slice e => rw [hd] at hu; exact .inl ⟨e, hu⟩
      | string => rw [hd] at hu; exact .inr hu
      | _ => rw [hd] at h; cases h
theorem lenVal_kind {x : Value} {n : Nat} (h : lenVal x = some n) : (∃ p k, x = .slice p n k) ∨ ∃ z, x = .string z ∧ n = z.data.toList.length := by
  cases x with
  | slice p m k => cases h; exact .inl ⟨p, k, rfl⟩
  | string z => cases h; exact .inr ⟨z, rfl, rfl⟩
  | _ => cases h

theorem append0_ok (K : TbOk P) (hR : Rep P.P w0 E H w) {t tx ty e : TypeId} {i : TyI} (hu : P.P.underlying t = some (.slice e)) (hi : TyOk P.P e i) (hkx : (∃ e', P.P.underlying tx = some (.slice e')) ∨ P.P.underlying tx = some .string)
    {x d : Value} (hx : VR E x c) (hl : ∀ w, (Builtin.lenOf d).run P.P w = .ok 0 w) (hfc : (Builtin.firstCells i.size 0 d).run P.P w = .ok #[] w) (h : append0 H e i.size x = .ok v H') :
    H' = H ∧ v = x ∧ (Builtin.append_ #[t, tx] ty #[c, d]).run P.P w = .ok c w := by
  obtain ⟨j, g1, g2, g3⟩ := hi.typeInfo
  have key : ∀ (q : Option Addr) (n k : Nat), n ≤ k → (Builtin.append_ #[t, tx] ty #[.slice q n k, d]).run P.P w = .ok (.slice q n k) w := fun q n k hnk => by
    rcases hkx with ⟨e', hk⟩ | hk <;> cases q <;>
      simp [Builtin.append_, run_underlying hu, run_underlying hk, Go.sizeOf, Go.typeInfo, g1, g2, hl, hnk, hfc, storeCells]
  cases x with
  | slice p n k =>
    cases p with
    | none =>
      obtain ⟨h1, h⟩ := bsel_did h (by simp)
      obtain ⟨rfl, rfl⟩ := ok_inj h
      obtain rfl := hx.plain rfl
      exact ⟨rfl, rfl, key _ _ _ (Nat.le_of_ble_eq_true h1)⟩
    | some b =>
      obtain ⟨B, k', rfl, hB, hc⟩ := hx.slice_inv
      change bsel (Nat.ble k 9223372036854775807) _ _ = _ at h
      cases h1 : Nat.ble k 9223372036854775807 with
      | true =>
        rw [h1, bsel_t] at h
        obtain ⟨h2, h⟩ := bsel_did h (by simp)
        obtain ⟨rfl, rfl⟩ := ok_inj h
        have hk := Nat.le_of_ble_eq_true h1
        have : k' = k := by
          rcases hc with ⟨_, h⟩ | ⟨_, _, _, h, _⟩
          · exact h
          · omega
        subst this
        exact ⟨rfl, rfl, key _ _ _ (Nat.le_of_ble_eq_true h2)⟩
      | false =>
        rw [h1, bsel_f] at h
        obtain ⟨bk, h2, h⟩ := osel_did h (by simp)
        obtain ⟨h3, h⟩ := bsel_did h (by simp)
        obtain ⟨rfl, rfl⟩ := ok_inj h
        have hk : ¬ k ≤ 9223372036854775807 := fun hle => by rw [Nat.ble_eq_true_of_le hle] at h1; cases h1
        exact ⟨rfl, rfl, key _ _ _ (gFits_ok hR hi hB hc h2 hk h3).1⟩
  | _ => cases h

theorem appendV_ok (K : TbOk P) (hR : Rep P.P w0 E H w) {t tx ty e : TypeId} {i : TyI} (hu : P.P.underlying t = some (.slice e)) (hi : TyOk P.P e i) {z : List Value} (hz : i.zero = some z) (hpos : ¬ i.size = 0) {n : Nat} (hn : ¬ n = 0)
    {l cl : List Value} (hv : VRL E l cl) (h1 : allL oneCell l = true) {x d : Value} (hx : VR E x c) (hs : Src P.P i.size tx d n cl w) (hnb : n * (i.bytes + 1) ≤ 1000000000) (h : appendV H e i.size i.bytes n l x = .ok v H') :
    ∃ E' w' c', E.le E' ∧ Rep P.P w0 E' H' w' ∧ VR E' v c' ∧ (Builtin.append_ #[t, tx] ty #[c, d]).run P.P w = .ok c' w' := by
  cases x with
  | slice p sLen cap =>
    cases p with
    | none =>
      obtain ⟨h2, h⟩ := bsel_did h (by simp)
      obtain ⟨h3, h⟩ := bsel_did h (by simp)
      have h2 : sLen = 0 := Nat.eq_of_beq_eq_true h2
      have h3 : cap = 0 := Nat.eq_of_beq_eq_true h3
      subst h2; subst h3
      obtain rfl := hx.plain rfl
      have h0 : freshSlice H e ([] ++ l) (0 + n) = .ok v H' := by rw [List.nil_append, Nat.zero_add]; exact h
      exact grow_ok hR hu hi hz (old := []) (ol := []) .nil (by simp) (fun w' _ => by simp [Builtin.firstCells]) hv hs (by omega) (by rw [Nat.zero_add]; exact hnb) h0
    | some b =>
      obtain ⟨h2, h⟩ := bsel_did h (by simp)
      obtain ⟨h3, h⟩ := bsel_did h (by simp)
      obtain ⟨bk, h4, h⟩ := osel_did h (by simp)
      have h3 : (sLen + n) * (i.bytes + 1) ≤ 1000000000 := Nat.le_of_ble_eq_true h3
      have hsp := noSpot_iff h2
      obtain ⟨B, k', rfl, hB, hc⟩ := hx.slice_inv
      cases h5 : Nat.ble cap 9223372036854775807 with
      | true =>
        rw [h5, bsel_t] at h
        have hk := Nat.le_of_ble_eq_true h5
        have hkk : k' = cap := by
          rcases hc with ⟨_, h⟩ | ⟨_, _, _, h, _⟩
          · exact h
          · omega
        unfold appendKnown at h
        cases h6 : Nat.ble (Nat.add sLen n) cap with
        | true =>
          rw [h6, bsel_t] at h
          have hroom : sLen + n ≤ k' := by rw [hkk]; exact Nat.le_of_ble_eq_true h6
          rw [hsp]
          exact appendTo_ok K hR hu hi hB h4 hsp hc hv h1 hs hroom h
        | false =>
          rw [h6, bsel_f] at h
          obtain ⟨old, h7, h⟩ := osel_did h (by simp)
          have hroom : k' < sLen + n := by
            rw [hkk]
            rcases Nat.lt_or_ge cap (sLen + n) with h | h
            · exact h
            · exact absurd (Nat.ble_eq_true_of_le h) (by show ¬ Nat.ble (Nat.add sLen n) cap = true; rw [h6]; simp)
          obtain ⟨ol, g1, g2, g3⟩ := firstN_ok hR hx rfl (Nat.le_refl _) h7
          exact grow_ok hR hu hi hz g1 g2 g3 hv hs hroom h3 h
      | false =>
        rw [h5, bsel_f] at h
        have hk : ¬ cap ≤ 9223372036854775807 := fun hle => by rw [Nat.ble_eq_true_of_le hle] at h5; cases h5
        unfold appendGrown at h
        cases h6 : gFits b e cap (Nat.add sLen n) i.size bk with
        | true =>
          rw [h6, bsel_t] at h
          rw [hsp]
          exact appendTo_ok K hR hu hi hB h4 hsp hc hv h1 hs (gFits_ok hR hi hB hc h4 hk h6).1 h
        | false =>
          rw [h6, bsel_f] at h
          obtain ⟨h7, h⟩ := bsel_did h (by simp)
          obtain ⟨h8, h⟩ := bsel_did h (by simp)
          have h7 : b.off = 0 := Nat.eq_of_beq_eq_true h7
          have h8 : cap = BIG * (b.block + 1) := Nat.eq_of_beq_eq_true h8
          have hcp : k' = E.cp b.block := by
            obtain ⟨q, B2, jj, q0, q1, q2, q3, q4⟩ := hc.resolve_left (fun h => hk h.1)
            have hq : q = b.block ∧ jj = 0 := by unfold BIG at *; omega
            obtain ⟨rfl, rfl⟩ := hq
            omega
          rw [hsp, h7]
          exact moveGrown_ok K hR hu hi hz hB h4 hcp (by omega) hv h1 hs h3 h
  | _ => cases h

theorem append2_ok (K : TbOk P) (hR : Rep P.P w0 E H w) {ts : Array TypeId} {ty : TypeId} {vs cs : List Value} (hts : ts.size = 2) (hv : VRL E vs cs) (h : append2 P H ts.toList vs = .ok v H') :
    ∃ E' w' c', E.le E' ∧ Rep P.P w0 E' H' w' ∧ VR E' v c' ∧ (Builtin.append_ ts ty cs.toArray).run P.P w = .ok c' w' := by
  cases hv with
  | nil => cases h
  | cons hx hr =>
    cases hr with
    | nil => cases h
    | cons hy hr =>
      cases hr with
      | cons _ _ => cases h
      | nil =>
        rename_i sv c x d
        obtain ⟨t, g1, h⟩ := osel_did h (by simp)
        obtain ⟨e, g2, h⟩ := osel_did h (by simp)
        obtain ⟨z, g3, h⟩ := osel_did h (by simp)
        obtain ⟨g4, h⟩ := bsel_did h (by simp)
        obtain ⟨n, g5, h⟩ := osel_did h (by simp)
        obtain ⟨tx, g6, hkx⟩ := srcT_ok K g4
        obtain ⟨hu, he, hi⟩ := elemTy_ok K g2
        have g1 := nth_arr g1
        have hts2 : ts = #[t, tx] := by
          apply Array.ext_getElem?
          intro q
          match q with
          | 0 => simpa using g1
          | 1 => simpa using g6
          | q + 2 => rw [Array.getElem?_eq_none (by omega)]; simp
        rw [hts2]
        cases hn : Nat.beq n 0 with
        | true =>
          rw [hn, bsel_t] at h
          have : n = 0 := Nat.eq_of_beq_eq_true hn
          subst this
          obtain ⟨cl, q1, q2, q3⟩ := firstN_ok (P := P) (size := e.2.size) hR hy g5 (Nat.le_refl _) (l := []) (by simp [firstN, bsel])
          have : cl = [] := by cases q1; rfl
          subst this
          have q4 := append0_ok (ty := ty) K hR hu hi hkx hx (lenVal_ok hy g5) (q3 w rfl) h
          rw [q4.1, q4.2.1]
          exact ⟨E, w, _, .refl E, hR, hx, q4.2.2⟩
        | false =>
          rw [hn, bsel_f] at h
          obtain ⟨g7, h⟩ := bsel_didN h (by simp)
          obtain ⟨g8, h⟩ := bsel_did h (by simp)
          obtain ⟨l, g9, h⟩ := osel_did h (by simp)
          obtain ⟨g10, h⟩ := bsel_did h (by simp)
          have hn0 : ¬ n = 0 := fun e => by subst e; cases hn
          have hsz : ¬ e.2.size = 0 := fun e => by rw [e] at g7; cases g7
          obtain ⟨cl, q1, q2, q3⟩ := firstN_ok hR hy g5 (Nat.le_refl _) g9
          have hs : Src P.P e.2.size tx d n cl w := ⟨hkx, lenVal_ok hy g5, q3 w rfl, q3 w.drew rfl, q2, ones q1 g10⟩
          exact appendV_ok K hR hu hi g3 hsz hn0 q1 g10 hx hs (Nat.le_of_ble_eq_true g8) h
end
end Go.Proofs.YthgjjogleklmcaaGreatDoor.Ev
