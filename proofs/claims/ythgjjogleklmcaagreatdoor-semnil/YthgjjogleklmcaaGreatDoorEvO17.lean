/- The reckoner: part EvO17. -/
import Derived.Test.YthgjjogleklmcaaGreatDoorEvO16
import Derived.Lib.UnsafeStr
namespace Go.Proofs.YthgjjogleklmcaaGreatDoor.Ev
open Go.RowKit
set_option linter.unusedVariables false
section
variable {P : Tb} {w0 : Base} {E : Env} {H H' : St} {w : World} {s : Lc} {L : Ls} {a : Act} {o : Oper} {v c d : Value}

theorem len1_ok (K : TbOk P) (hR : Rep P.P w0 E H w) {ts : Array TypeId} {ty : TypeId} {vs cs : List Value} (hv : VRL E vs cs) (h : len1 P H ts.toList vs = .ok v H') :
    H' = H ∧ plain v = true ∧ (Builtin.len_ ts ty cs.toArray).run P.P w = .ok v w := by
  cases hv with
  | nil => cases h
  | cons hx hr =>
    cases hr with
    | cons _ _ => cases h
    | nil =>
      obtain ⟨t, g1, h⟩ := osel_did h (by simp)
      obtain ⟨i, g2, h⟩ := osel_did h (by simp)
      exact lenD_ok hR (K.ty t i g2).under hx (nth_arr g1) rfl h

theorem min2_eq (x y : Nat) : min2 x y = Nat.min x y := by
  unfold min2
  cases h : Nat.ble x y with
  | true => rw [bsel_t]; exact (Nat.min_eq_left (Nat.le_of_ble_eq_true h)).symm
  | false =>
    rw [bsel_f]
    rcases Nat.le_total x y with h' | h'
    · rw [Nat.ble_eq_true_of_le h'] at h; cases h
    · exact (Nat.min_eq_right h').symm

theorem copy2_ok (K : TbOk P) (hR : Rep P.P w0 E H w) {ts : Array TypeId} {ty : TypeId} {vs cs : List Value} (hv : VRL E vs cs) (h : copy2 P H ts.toList vs = .ok v H') :
    ∃ w', Rep P.P w0 E H' w' ∧ plain v = true ∧ (Builtin.copy_ ts ty cs.toArray).run P.P w = .ok v w' := by
  cases hv with
  | nil => cases h
  | cons hx hr =>
    cases hr with
    | nil => cases h
    | cons hy hr =>
      cases hr with
      | cons _ _ => cases h
      | nil =>
        obtain ⟨t, g1, h⟩ := osel_did h (by simp)
        obtain ⟨e, g2, h⟩ := osel_did h (by simp)
        obtain ⟨dl, g3, h⟩ := osel_did h (by simp)
        obtain ⟨xl, g4, h⟩ := osel_did h (by simp)
        obtain ⟨l, g5, h⟩ := osel_did h (by simp)
        obtain ⟨g6, h⟩ := bsel_did h (by simp)
        obtain ⟨hu, he, hi⟩ := elemTy_ok K g2
        have g1 := nth_arr g1
        rw [min2_eq] at g5 h
        obtain ⟨cl, q1, q2, q3⟩ := firstN_ok hR hy g4 (Nat.min_le_left _ _) g5
        obtain ⟨rfl, q, m, k, w', hc, hR', hst⟩ := copyTo_ok hR q1 g6 hx h
        have hm : m = dl := by
          rw [hc] at hx
          rcases lenVal_kind g3 with ⟨p, k2, rfl⟩ | ⟨z, rfl, _⟩
          · cases p with
            | none => have := hx.plain rfl; cases this; rfl
            | some b => obtain ⟨_, _, h, _⟩ := hx.slice_inv; cases h; rfl
          · have := hx.plain rfl; cases this
        subst hm
        have hlen := lenVal_ok (Q := P.P) hy g4 w
        refine ⟨w', hR', rfl, ?_⟩
        rw [hc]
        have q3 := q3 w rfl
        cases q with
        | none =>
          simp at hst
          subst hst
          simp [Builtin.copy_, g1, run_underlying hu, hlen, hi.sizeOf, q3, goInt]
        | some b =>
          simp only at hst
          simp [Builtin.copy_, g1, run_underlying hu, hlen, hi.sizeOf, q3, hst, goInt]

theorem elemB_ok (K : TbOk P) {bk : Blk} {e : TypeId × TyI} (h : elemB P bk = some e) : TyOk P.P e.1 e.2 ∧ ∃ k dd cs g fz st ro, bk = .cells e.1 k dd cs g fz st ro := by
  cases bk with
  | cells e' k dd cs g fz st ro =>
    obtain ⟨i, h1, h⟩ := osel_opt h
    cases h
    exact ⟨K.ty _ _ h1, _, _, _, _, _, _, _, rfl⟩
  | _ => cases h
theorem sliceData_ok (K : TbOk P) (hR : Rep P.P w0 E H w) {ts : Array TypeId} {ty : TypeId} {vs cs : List Value} (hv : VRL E vs cs) (h : sliceData P H vs = .ok v H') :
    H' = H ∧ ∃ c', VR E v c' ∧ (Builtin.unsafeSliceData_ ts ty cs.toArray).run P.P w = .ok c' w := by
  cases hv with
  | nil => cases h
  | cons hx hr =>
    rename_i x c vs cs
    cases hr with
    | cons _ _ => cases h
    | nil =>
      cases x with
      | slice p n k =>
        cases p with
        | none =>
          obtain ⟨rfl, rfl⟩ := ok_inj h
          rw [hx.plain rfl]
          have hdef : Builtin.unsafeSliceData_ ts ty #[.slice none n k] = pure (.pointer none) := rfl
          exact ⟨rfl, .pointer none, .flat rfl, by show (Builtin.unsafeSliceData_ ts ty #[.slice none n k]).run P.P w = _; rw [hdef]; rfl⟩
        | some b =>
          obtain ⟨B, k', rfl, hB, hc⟩ := hx.slice_inv
          have key : ¬ k' = 0 → H' = H ∧ v = .pointer (some b) → H' = H ∧ ∃ c', VR E v c' ∧ (Builtin.unsafeSliceData_ ts ty [Value.slice (some ⟨B, b.off, b.spot⟩) n k'].toArray).run P.P w = .ok c' w := fun hk h => by
            obtain ⟨rfl, rfl⟩ := h
            have hdef : Builtin.unsafeSliceData_ ts ty #[.slice (some ⟨B, b.off, b.spot⟩) n k'] =
                (if k' ≠ 0 then pure (.pointer (some ⟨B, b.off, b.spot⟩))
                 else do if (← viewAt B).isSome then pure (.pointer (some ⟨B, b.off, b.spot⟩)) else pure (.pointer (some ⟨← newObj (.view ⟨B, b.off, b.spot⟩ (← Go.elemOf ty)), 0, none⟩))) := rfl
            refine ⟨rfl, .pointer (some ⟨B, b.off, b.spot⟩), .ptr hB, ?_⟩
            show (Builtin.unsafeSliceData_ ts ty #[.slice (some ⟨B, b.off, b.spot⟩) n k']).run P.P w = _
            rw [hdef, if_pos hk]; rfl
          change bsel (Nat.ble k 9223372036854775807) (bsel (Nat.beq k 0) (Did.fail 260) (Did.ok (.pointer (some b)) H)) _ = _ at h
          cases h1 : Nat.ble k 9223372036854775807 with
          | true =>
            rw [h1, bsel_t] at h
            obtain ⟨h2, h⟩ := bsel_didN h (by simp)
            obtain ⟨rfl, rfl⟩ := ok_inj h
            have hk := Nat.le_of_ble_eq_true h1
            have hkk : k' = k := by
              rcases hc with ⟨_, h⟩ | ⟨_, _, _, h, _⟩
              · exact h
              · omega
            exact key (fun e => by rw [← hkk, e] at h2; cases h2) ⟨rfl, rfl⟩
          | false =>
            rw [h1, bsel_f] at h
            obtain ⟨bk, h2, h⟩ := osel_did h (by simp)
            obtain ⟨e, h3, h⟩ := osel_did h (by simp)
            obtain ⟨h4, h⟩ := bsel_did h (by simp)
            obtain ⟨rfl, rfl⟩ := ok_inj h
            have hk : ¬ k ≤ 9223372036854775807 := fun hle => by rw [Nat.ble_eq_true_of_le hle] at h1; cases h1
            have := (gFits_ok hR (elemB_ok K h3).1 hB hc h2 hk h4).1
            exact key (by omega) ⟨rfl, rfl⟩
      | _ => cases h

theorem ptrTo1_ok (K : TbOk P) {ts : Array TypeId} {bk : Blk} (h : ptrTo1 P ts.toList bk = true) : ∃ t e i, ts[0]? = some t ∧ P.P.underlying t = some (.pointer e) ∧ P.P.cellsOf e = 1 ∧ TyOk P.P e i ∧ i.size = 1 ∧ ∃ k dd cs g fz st ro, bk = .cells e k dd cs g fz st ro := by
  unfold ptrTo1 at h
  cases h1 : nth ts.toList 0 with
  | none => rw [h1] at h; cases h
  | some t =>
    rw [h1, osel_s] at h
    cases h2 : P.ty.get t with
    | none => rw [h2] at h; cases h
    | some i =>
      rw [h2, osel_s] at h
      cases h3 : elemB P bk with
      | none => rw [h3] at h; cases h
      | some e =>
        rw [h3, osel_s] at h
        obtain ⟨h4, h⟩ := bsel_and h
        have hu := (K.ty t i h2).under
        obtain ⟨he, hbk⟩ := elemB_ok K h3
        have h4 : e.2.size = 1 := Nat.eq_of_beq_eq_true h4
        obtain ⟨j, g1, g2, _⟩ := he.typeInfo
        cases hd : i.under with
        | pointer u =>
          rw [hd] at h hu
          have : u = e.1 := Nat.eq_of_beq_eq_true h
          subst this
          exact ⟨t, e.1, e.2, nth_arr h1, hu, by simp [Program.cellsOf, g1, g2, h4], he, h4, hbk⟩
        | _ => rw [hd] at h; cases h

theorem natI64_ok {x : Value} (hx : VR E x c) {n : Nat} (h : natI64 x = some n) : c = .int .i64 (n : Int) := by
  cases x with
  | int k z =>
    cases k <;> first | (cases h; done) | skip
    cases z with
    | ofNat m => cases h; exact hx.plain rfl
    | negSucc m => cases h
  | _ => cases h

theorem unsafeStr_ok (K : TbOk P) (hR : Rep P.P w0 E H w) {ts : Array TypeId} {ty : TypeId} {vs cs : List Value} (hts : ts.size = 2) (hv : VRL E vs cs) (h : unsafeStr P H ts.toList vs = .ok v H') :
    ∃ w', Rep P.P w0 E H' w' ∧ plain v = true ∧ (Builtin.unsafeString_ ts ty cs.toArray).run P.P w = .ok v w' := by
  cases hv with
  | nil => cases h
  | cons hx hr =>
    cases hr with
    | nil => cases h
    | cons hy hr =>
      cases hr with
      | cons _ _ => cases h
      | nil =>
        rename_i x c y d
        obtain ⟨n, h1, h⟩ := osel_did h (by simp)
        obtain rfl := natI64_ok hy h1
        obtain ⟨t, it, rfl⟩ : ∃ t it, ts = #[t, it] := by
          obtain ⟨l⟩ := ts
          match l, hts with
          | [t, it], _ => exact ⟨t, it, rfl⟩
        cases x with
        | pointer p =>
          cases hn : Nat.beq n 0 with
          | true =>
            have : n = 0 := Nat.eq_of_beq_eq_true hn
            subst this
            cases p with
            | none =>
              have h : bsel (Nat.beq 0 0) (Did.ok (.string .empty) H) (Did.fail 263) = Did.ok v H' := h
              obtain ⟨_, h⟩ := bsel_did h (by simp)
              obtain ⟨rfl, rfl⟩ := ok_inj h
              rw [hx.plain rfl]
              exact ⟨w, hR, rfl, Lib.run_unsafeString_none w t it ty none⟩
            | some b =>
              obtain ⟨B, hB, rfl⟩ := hx.pointer_inv
              obtain ⟨rfl, rfl⟩ := ok_inj h
              exact ⟨w, hR, rfl, Lib.run_unsafeString_none w t it ty _⟩
          | false =>
            cases p with
            | none => change bsel (Nat.beq n 0) _ _ = _ at h; rw [hn] at h; cases h
            | some b =>
              change bsel (Nat.beq n 0) _ _ = _ at h
              rw [hn, bsel_f] at h
              obtain ⟨B, hB, rfl⟩ := hx.pointer_inv
              obtain ⟨h2, h⟩ := bsel_did h (by simp)
              obtain ⟨h3, h⟩ := bsel_did h (by simp)
              obtain ⟨h4, h⟩ := bsel_did h (by simp)
              obtain ⟨bk, h5, h⟩ := osel_did h (by simp)
              obtain ⟨h6, h⟩ := bsel_did h (by simp)
              have h3 : b.off = 0 := Nat.eq_of_beq_eq_true h3
              have h4 : n ≤ 1000000000 := Nat.le_of_ble_eq_true h4
              obtain ⟨t', e, i, q1, q2, q3, q4, q5, k, dd, ct, g, fz, st, ro, rfl⟩ := ptrTo1_ok K h6
              cases q1
              cases hs : strOfB 0 n H (.cells e k dd ct g fz st ro) with
              | ok u H2 =>
                rw [hs] at h
                obtain ⟨H3, h7, h⟩ := osel_did h (by simp)
                obtain ⟨rfl, rfl⟩ := ok_inj h
                obtain ⟨rfl, ns, C, el, fr, rfl, r1, r2, r3, r4⟩ := strOfB_ok hR h5 hB hs
                obtain ⟨B', ob, hB', hob, hbl⟩ := hR.blk _ _ h5
                rw [hB] at hB'; cases hB'
                obtain ⟨C2, fr2, rfl, hrow⟩ := hbl
                rw [r2] at hob; cases hob
                cases ro with
                | true => cases h7
                | false =>
                  cases h7
                  have hcell : ∀ q (y : UInt8), (ns.map fun n => UInt8.ofNat n.toNat)[q]? = some y → w.cell? ((⟨B, 0, none⟩ : Addr).add q) = some (.int .u8 y.toNat) := fun q y hq => by
                    rw [List.getElem?_map] at hq
                    obtain ⟨m, hm, rfl⟩ := Option.map_eq_some_iff.1 hq
                    have hr := r3 q (.int .u8 m) (by rw [List.getElem?_map, hm]; rfl)
                    rw [Addr.add_mid, hr]
                    obtain ⟨g1, g2⟩ := r4 m (List.mem_of_getElem? hm)
                    have e1 : (UInt8.ofNat m.toNat).toNat = m.toNat := UInt8.toNat_ofNat_of_lt' (by show m.toNat < 256; omega)
                    rw [e1, Int.toNat_of_nonneg g1]
                  have hlen : (ns.map fun n => UInt8.ofNat n.toNat).length = n := by rw [List.length_map]; exact r1
                  have hne : (ns.map fun n => UInt8.ofNat n.toNat) ≠ [] := fun e => by rw [e] at hlen; rw [← hlen] at hn; cases hn
                  have hle := hrow.le
                  have hnC : n ≤ C.size := by
                    rcases Nat.lt_or_ge C.size n with hlt | hge
                    · have hq : C.size < ns.length := by omega
                      have := r3 C.size (.int .u8 ns[C.size]) (by rw [List.getElem?_map, List.getElem?_eq_getElem hq]; rfl)
                      simp [World.cell?, r2] at this
                    · exact hge
                  have hrun := Lib.run_unsafeString_row (P := P.P) w t it ty e q2 q3 B C.size (by simp [World.shape?, r2]) (ns.map fun n => UInt8.ofNat n.toNat) hne (by omega) (by omega) hcell
                  rw [hlen] at hrun
                  have hspot : (⟨B, b.off, b.spot⟩ : Addr) = ⟨B, 0, none⟩ := by rw [h3, noSpot_iff h2]
                  rw [hspot]
                  have hn0 : ¬ n = 0 := fun e => by rw [e] at hn; cases hn
                  have hfz : w.freeze ⟨B, 0, none⟩ n = { w with heap := w.heap.setIfInBounds B (.cells C e (if fr.1 == fr.2 then (0, 0 + n) else (min fr.1 0, max fr.2 (0 + n)))) } := by
                    unfold World.freeze
                    rw [if_neg hn0]
                    congr 1
                    apply Array.ext_getElem?
                    intro q
                    rw [Array.getElem?_modify]
                    by_cases hq : B = q
                    · subst hq
                      have hlt := (Array.getElem?_eq_some_iff.1 r2).1
                      rw [if_pos rfl, r2, Array.getElem?_setIfInBounds_self_of_lt hlt]
                      obtain ⟨f1, f2⟩ := fr
                      rfl
                    · rw [if_neg hq, Array.getElem?_setIfInBounds_ne hq]
                  have hlt := (Array.getElem?_eq_some_iff.1 r2).1
                  have honly : Only B w (w.freeze ⟨B, 0, none⟩ n) := by
                    rw [hfz]
                    exact ⟨rfl, rfl, rfl, by simp, fun q hq => by simp [Array.getElem?_setIfInBounds_ne (Ne.symm hq)]⟩
                  have hat : (w.freeze ⟨B, 0, none⟩ n).heap[B]? = some (.cells C e (if fr.1 == fr.2 then (0, 0 + n) else (min fr.1 0, max fr.2 (0 + n)))) := by
                    rw [hfz]; simp [hlt]
                  refine ⟨w.freeze ⟨B, 0, none⟩ n, hR.set h5 hB rfl honly hat ?_, rfl, hrun⟩
                  cases st with
                  | true =>
                    exact ⟨C, _, rfl, hle, hrow.exact, hrow.grown, hrow.bound, hrow.cells, (fun h => nomatch h), (fun h => nomatch h)⟩
                  | false =>
                    have hm := hrow.mark rfl
                    have hmax : bsel (Nat.ble fz n) n fz = max fz n := by
                      cases hb : Nat.ble fz n with
                      | true => rw [bsel_t]; exact (Nat.max_eq_right (Nat.le_of_ble_eq_true hb)).symm
                      | false =>
                        rw [bsel_f]
                        rcases Nat.le_total fz n with h | h
                        · rw [Nat.ble_eq_true_of_le h] at hb; cases hb
                        · exact (Nat.max_eq_left h).symm
                    refine ⟨C, _, rfl, hle, hrow.exact, hrow.grown, hrow.bound, hrow.cells, fun _ q h8 h9 => ?_, fun _ => .inr ?_⟩
                    · rw [hmax] at h8
                      by_cases hff : fr.1 = fr.2
                      · rw [if_pos (by simpa using hff)]; simp only []; omega
                      · rw [if_neg (by simpa using hff)]
                        have := hm.resolve_left hff
                        simp only []; omega
                    · rw [hmax]
                      by_cases hff : fr.1 = fr.2
                      · rw [if_pos (by simpa using hff)]; simp only []; omega
                      · rw [if_neg (by simpa using hff)]
                        have := hm.resolve_left hff
                        simp only []; omega
              | _ => rw [hs] at h; cases h
        | _ => cases h
end
end Go.Proofs.YthgjjogleklmcaaGreatDoor.Ev
