/- The reckoner: part EvO6. -/
import Derived.Test.YthgjjogleklmcaaGreatDoorEvO5
namespace Go.Proofs.YthgjjogleklmcaaGreatDoor.Ev
open Go.RowKit
set_option linter.unusedVariables false
section
variable {P : Tb} {w0 : Base} {E : Env} {H H' : St} {w : World} {s : Lc} {L : Ls} {a : Act} {o : Oper} {v c d : Value}

/-! ### conversions that make nothing -/
theorem isU8_eq {d : TypeDesc} (h : isU8 d = true) : d = .int .u8 := by
  cases d with
  | int k => cases k <;> first | rfl | (cases h)
  | _ => cases h
/-- a range of a row -/
theorem RowR.range {Q : Program} {b elem n} {cs : BT Value} {g fz st ro C fr} (hr : RowR Q E b elem n cs g fz st ro C fr) {k off : Nat} {l : List Value} (h : BT.getL cs k off = some l) :
    l.length = k ∧ ∃ cl : List Value, VRL E l cl ∧ cl.length = k ∧ (∀ j, j < k → cl[j]? = C[off + j]?) ∧ (k = 0 ∨ off + k ≤ C.size) := by
  obtain ⟨h5, h6⟩ := BT.getL_some cs k off l h
  have hcs : ∀ j v, l[j]? = some v → ∃ c, C[off + j]? = some c ∧ VR E v c := fun j v hj => hr.cells _ _ (h6 j v hj)
  have hle : k = 0 ∨ off + k ≤ C.size := by
    rcases Nat.eq_zero_or_pos k with h0 | h0
    · exact .inl h0
    · right
      obtain ⟨c, hc, _⟩ := hcs (l.length - 1) l[l.length - 1] (List.getElem?_eq_getElem (by omega))
      have := (Array.getElem?_eq_some_iff.1 hc).1
      omega
  have hcl : ((C.toList.drop off).take k).length = k := by simp only [List.length_take, List.length_drop, Array.length_toList]; omega
  have hget : ∀ j, j < k → ((C.toList.drop off).take k)[j]? = C[off + j]? := fun j hj => by simp [List.getElem?_drop, hj]
  refine ⟨h5, _, VRL.of_get (h5.trans hcl.symm) fun j v c hv hc => ?_, hcl, hget, hle⟩
  obtain ⟨c', h7, h8⟩ := hcs j v hv
  have hj : j < k := by rw [← h5]; exact (List.getElem?_eq_some_iff.1 hv).1
  rw [hget j hj, h7] at hc; cases hc; exact h8
theorem range_cell {B : Nat} {C : Array Value} {el : TypeId} {fr : Nat × Nat} (hb : w.heap[B]? = some (.cells C el fr)) {off k : Nat} {cl : List Value} (hlen : cl.length = k) (hget : ∀ j, j < k → cl[j]? = C[off + j]?) :
    w.rangeAt B off cl := fun j v hv => by
  have hj : j < k := by rw [← hlen]; exact (List.getElem?_eq_some_iff.1 hv).1
  simp only [World.cell?, hb, Option.isSome_none, Bool.false_eq_true, if_false]
  rw [← hget j hj]; exact hv
theorem range_load {B : Nat} {off : Nat} {cl : List Value} (h : w.rangeAt B off cl) {k : Nat} (hk : cl.length = k) : (loadCells ⟨B, off, none⟩ k).run P.P w = .ok cl.toArray w := by
  rw [← hk]
  exact run_loadCells_list (P := P.P) w ⟨B, off, none⟩ cl (fun j v hv => by rw [Addr.add_mid]; exact h j v hv)

theorem byteOf_ok {v : Value} {b : UInt8} (h : byteOf v = some b) : ∃ n : Nat, v = .int .u8 (Int.ofNat n) ∧ b = UInt8.ofNat n ∧ n ≤ 255 := by
  cases v with
  | int k z =>
    cases k <;> try (cases h; done)
    cases z with
    | ofNat n => obtain ⟨h1, h⟩ := bsel_opt h; cases h; exact ⟨n, rfl, rfl, Nat.le_of_ble_eq_true h1⟩
    | negSucc n => cases h
  | _ => cases h
theorem bytes_of : ∀ {l cl : List Value} {bs : List UInt8}, VRL E l cl → mapO byteOf l = some bs → ∃ ns : List Int, cl = ns.map (Value.int .u8) ∧ bs = (ns.map fun n => UInt8.ofNat n.toNat) ∧ ∀ n ∈ ns, 0 ≤ n ∧ n ≤ 255
  | _, _, bs, .nil, h => by cases h; exact ⟨[], rfl, rfl, by simp⟩
  | _, _, bs, .cons hv hr, h => by
    rw [mapO_cons] at h
    obtain ⟨b, h1, h⟩ := osel_opt h
    obtain ⟨r, h2, h⟩ := osel_opt h
    cases h
    obtain ⟨n, rfl, rfl, hn⟩ := byteOf_ok h1
    obtain ⟨ns, rfl, rfl, hns⟩ := bytes_of hr h2
    refine ⟨Int.ofNat n :: ns, by rw [hv.plain rfl]; rfl, by simp, fun m hm => ?_⟩
    rcases List.mem_cons.1 hm with rfl | hm
    · exact ⟨Int.natCast_nonneg _, by show (n : Int) ≤ 255; omega⟩
    · exact hns m hm
theorem push_all : ∀ (ns : List Int) (z : ByteArray), ns.foldl (fun r n => r.push (UInt8.ofNat n.toNat)) z = ⟨(z.data.toList ++ ns.map fun n => UInt8.ofNat n.toNat).toArray⟩
  | [], z => by simp
  | n :: ns, z => by
    rw [List.foldl_cons, push_all ns]
    congr 1
    simp [ByteArray.push]

/-- the bytes of a range, as a string -/
theorem strOfB_ok (hR : Rep P.P w0 E H w) {b B : Nat} {k : Blk} (hk : H.tr.get b = some k) (hB : E.bl b = some B) {off n : Nat} (h : strOfB off n H k = .ok v H') :
    H' = H ∧ ∃ (ns : List Int) (C : Array Value) (el : TypeId) (fr : Nat × Nat), v = .string ⟨(ns.map fun n => UInt8.ofNat n.toNat).toArray⟩ ∧ ns.length = n ∧ w.heap[B]? = some (.cells C el fr) ∧ w.rangeAt B off (ns.map (Value.int .u8)) ∧ ∀ n ∈ ns, 0 ≤ n ∧ n ≤ 255 := by
  obtain ⟨B', ob, hB', hob, hbl⟩ := hR.blk b k hk
  rw [hB] at hB'; cases hB'
  cases k with
  | cells elem m dd cs g fz st ro =>
    obtain ⟨C, fr, rfl, hrow⟩ := hbl
    obtain ⟨l, h1, h⟩ := osel_did h (by simp)
    obtain ⟨bs, h2, h⟩ := osel_did h (by simp)
    obtain ⟨rfl, rfl⟩ := ok_inj h
    obtain ⟨h3, cl, h4, h5, h6, h7⟩ := hrow.range h1
    obtain ⟨ns, rfl, rfl, hns⟩ := bytes_of h4 h2
    exact ⟨rfl, ns, C, elem, fr, rfl, by simpa using h5, hob, range_cell hob h5 h6, hns⟩
  | _ => cases h

theorem b2s_ok (hR : Rep P.P w0 E H w) {x : Value} (hx : VR E x c) (h : b2s H x = .ok v H') : H' = H ∧ plain v = true ∧ (Conv.bytesToString c).run P.P w = .ok v w := by
  cases x with
  | slice p n k =>
    cases p with
    | none => obtain rfl := hx.plain rfl; obtain ⟨rfl, rfl⟩ := ok_inj h; exact ⟨rfl, rfl, by simp [Conv.bytesToString]⟩
    | some b =>
      obtain ⟨B, k', rfl, hB, _⟩ := hx.slice_inv
      change bsel (Nat.beq n 0) _ _ = _ at h
      cases hn : Nat.beq n 0 with
      | true =>
        rw [hn, bsel_t] at h
        obtain ⟨rfl, rfl⟩ := ok_inj h
        have : n = 0 := Nat.eq_of_beq_eq_true hn
        subst this
        refine ⟨rfl, rfl, ?_⟩
        rw [run_bytesToString w _ 0 k' [] (by simp [loadCells, loadCellsFrom])]
        rfl
      | false =>
        rw [hn, bsel_f] at h
        obtain ⟨h1, h⟩ := bsel_did h (by simp)
        obtain ⟨kk, h2, h⟩ := osel_did h (by simp)
        obtain ⟨rfl, ns, C, el, fr, rfl, hl, hb, hr, _⟩ := strOfB_ok hR h2 hB h
        refine ⟨rfl, rfl, ?_⟩
        rw [noSpot_iff h1]
        rw [run_bytesToString w _ n k' ns (range_load hr (by simpa using hl)), push_all]
        simp
  | _ => cases h

theorem toUnsafe_ok (K : TbOk P) (hR : Rep P.P w0 E H w) {src dst t : TypeId} (hs : P.P.underlying src = some (.pointer t)) (hd : P.P.underlying dst = some .unsafePointer) {x : Value} (hx : VR E x c)
    (h : toUnsafe P H t x = .ok v H') : H' = H ∧ v = x ∧ (convert src dst c).run P.P w = .ok c w := by
  cases x with
  | pointer p =>
    cases p with
    | none => obtain rfl := hx.plain rfl; obtain ⟨rfl, rfl⟩ := ok_inj h; exact ⟨rfl, rfl, by simp [convert, Conv.unsafePointer, run_underlying hs, run_underlying hd]⟩
    | some b =>
      obtain ⟨B, hB, rfl⟩ := hx.pointer_inv
      obtain ⟨h1, h⟩ := bsel_did h (by simp)
      obtain ⟨i, h2, h⟩ := osel_did h (by simp)
      obtain ⟨h3, h⟩ := bsel_didN h (by simp)
      obtain ⟨k, h4, h⟩ := osel_did h (by simp)
      obtain ⟨B', ob, hB', hob, hbl⟩ := hR.blk _ k h4
      rw [hB] at hB'; cases hB'
      cases k with
      | cells elem n dd cs g fz st ro =>
        obtain ⟨C, fr, rfl, hrow⟩ := hbl
        obtain ⟨h5, h⟩ := bsel_did h (by simp)
        obtain ⟨rfl, rfl⟩ := ok_inj h
        have hlt : b.off < C.size := Nat.lt_of_lt_of_le (Nat.le_of_ble_eq_true h5) hrow.le
        obtain ⟨j, hj1, hj2, _⟩ := (K.ty t i h2).typeInfo
        have hz : ¬ i.size = 0 := fun e => by rw [e] at h3; cases h3
        rw [noSpot_iff h1]
        exact ⟨rfl, rfl, run_convert_to_unsafe (v := C[b.off]) hs hd (by simp [hj1, hj2, hz]) (by simp [World.cell?, hob, hlt])⟩
      | _ => cases h
  | _ => cases h

theorem fromUnsafe_ok (K : TbOk P) (hR : Rep P.P w0 E H w) {src dst t : TypeId} (hs : P.P.underlying src = some .unsafePointer) (hd : P.P.underlying dst = some (.pointer t)) {x : Value} (hx : VR E x c)
    (h : fromUnsafe P H t x = .ok v H') : H' = H ∧ v = x ∧ (convert src dst c).run P.P w = .ok c w := by
  cases x with
  | pointer p =>
    cases p with
    | none => obtain rfl := hx.plain rfl; obtain ⟨rfl, rfl⟩ := ok_inj h; exact ⟨rfl, rfl, by simp [convert, Conv.unsafePointer, run_underlying hs, run_underlying hd]⟩
    | some b =>
      obtain ⟨B, hB, rfl⟩ := hx.pointer_inv
      obtain ⟨h1, h⟩ := bsel_did h (by simp)
      obtain ⟨i, h2, h⟩ := osel_did h (by simp)
      obtain ⟨k, h4, h⟩ := osel_did h (by simp)
      obtain ⟨B', ob, hB', hob, hbl⟩ := hR.blk _ k h4
      rw [hB] at hB'; cases hB'
      cases k with
      | cells elem n dd cs g fz st ro =>
        obtain ⟨C, fr, rfl, hrow⟩ := hbl
        obtain ⟨h3, h⟩ := bsel_didN h (by simp)
        obtain ⟨h5, h⟩ := bsel_did h (by simp)
        obtain ⟨rfl, rfl⟩ := ok_inj h
        have hC := hrow.exact h3
        have hsh : w.shape? B = some (elem, C.size) := by simp [World.shape?, hob]
        rw [noSpot_iff h1]
        have hv : (variablesAt ⟨B, b.off, none⟩ t 1).run P.P w = .ok true w := by
          simp [variablesAt, hsh, hC, h5]
        refine ⟨rfl, rfl, ?_⟩
        have hsz := (K.ty t i h2).sizeOf w
        simp [convert, Conv.unsafePointer, Conv.seenAt, viewAt, run_underlying hs, run_underlying hd, hsh, hsz]
        rw [hv]
        simp
      | _ => cases h
  | _ => cases h

theorem convD_ok (K : TbOk P) (hR : Rep P.P w0 E H w) {src dst : TypeId} {x : Operand} (hop : o.op = .convert src dst x) {u : Value} {ui uj : TypeDesc} (hs : P.P.underlying src = some ui) (hd : P.P.underlying dst = some uj)
    (hu : VR E u (a.eval x)) (h3 : evO s L x = some u) (hk : execPure P s L H o = .ok v H' → H' = H ∧ Quiet P E w o a v) (h : convD P H u (execPure P s L H o) ui uj = .ok v H') :
    (H' = H ∧ Quiet P E w o a v) ∨ ∃ e i, P.P.underlying src = some .string ∧ P.P.underlying dst = some (.slice e) ∧ P.ty.get e = some i ∧ isU8 i.under = true ∧ i.size = 1 ∧ ∃ u, evO s L x = some u ∧ s2b H e u = .ok v H' := by
  unfold convD at h
  split at h
  · left
    cases u with
    | int k n =>
      obtain ⟨rfl, rfl⟩ := ok_inj h
      have e : a.eval x = .int k n := hu.plain rfl
      exact ⟨rfl, _, .flat rfl, by simp [execOp, hop, e, convert, run_underlying hs, run_underlying hd, Conv.intToInt, wrapK_eq]⟩
    | _ => exact hk h
  · left
    obtain ⟨k, h4, h⟩ := osel_did h (by simp)
    cases h5 : isU8 k.under with
    | false => rw [h5] at h; exact hk h
    | true =>
      rw [h5, bsel_t] at h
      obtain ⟨rfl, h6, h7⟩ := b2s_ok hR hu h
      have he := (K.ty _ k h4).under
      rw [isU8_eq h5] at he
      refine ⟨rfl, v, VR.of_plain E v h6, ?_⟩
      have hcv : (convert src dst (a.eval x)).run P.P w = .ok v w := by
        generalize a.eval x = c at hu h7
        cases u with
        | slice p n k =>
          have : ∃ q m l, c = .slice q m l := by
            cases p with
            | none => exact ⟨_, _, _, hu.plain rfl⟩
            | some b => obtain ⟨B, k', rfl, _, _⟩ := hu.slice_inv; exact ⟨_, _, _, rfl⟩
          obtain ⟨q, m, l, rfl⟩ := this
          rw [run_convert_bytes_string w src dst _ q m l hs he hd]; exact h7
        | _ => cases h
      simp [execOp, hop, hcv]
  · rename_i e
    obtain ⟨k, h4, h⟩ := osel_did h (by simp)
    cases h5 : isU8 k.under with
    | false => rw [h5] at h; exact .inl (hk h)
    | true =>
      rw [h5, bsel_t] at h
      obtain ⟨h6, h⟩ := bsel_did h (by simp)
      exact .inr ⟨e, k, hs, hd, h4, h5, Nat.eq_of_beq_eq_true h6, u, h3, h⟩
  · left
    obtain ⟨rfl, rfl, h7⟩ := toUnsafe_ok K hR hs hd hu h
    exact ⟨rfl, _, hu, by simp [execOp, hop, h7]⟩
  · left
    obtain ⟨rfl, rfl, h7⟩ := fromUnsafe_ok K hR hs hd hu h
    exact ⟨rfl, _, hu, by simp [execOp, hop, h7]⟩
  · left
    cases u with
    | string z =>
      obtain ⟨rfl, rfl⟩ := ok_inj h
      have e : a.eval x = .string z := hu.plain rfl
      exact ⟨rfl, _, .flat rfl, by simp [execOp, hop, e, convert, run_underlying hs, run_underlying hd]⟩
    | _ => exact hk h
  · exact .inl (hk h)
theorem xConvert_ok (K : TbOk P) (hR : Rep P.P w0 E H w) {src dst : TypeId} {x : Operand} (hS : LocR E s L a) (hop : o.op = .convert src dst x) (h : xConvert src dst x P s L H o = .ok v H') :
    (H' = H ∧ Quiet P E w o a v) ∨ ∃ e i, P.P.underlying src = some .string ∧ P.P.underlying dst = some (.slice e) ∧ P.ty.get e = some i ∧ isU8 i.under = true ∧ i.size = 1 ∧ ∃ u, evO s L x = some u ∧ s2b H e u = .ok v H' := by
  obtain ⟨i, h1, h⟩ := osel_did h (by simp)
  obtain ⟨j, h2, h⟩ := osel_did h (by simp)
  obtain ⟨u, h3, h⟩ := osel_did h (by simp)
  exact convD_ok K hR hop (K.ty _ i h1).under (K.ty _ j h2).under (hS x u h3) h3 (fun h => execPure_ok hS (by simp [hop]) h) h
end
end Go.Proofs.YthgjjogleklmcaaGreatDoor.Ev
