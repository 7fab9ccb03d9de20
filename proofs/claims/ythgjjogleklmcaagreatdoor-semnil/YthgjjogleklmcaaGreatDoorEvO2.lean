/- The reckoner: part EvO2. -/
import Derived.Test.YthgjjogleklmcaaGreatDoorEvO
namespace Go.Proofs.YthgjjogleklmcaaGreatDoor.Ev
open Go.RowKit
set_option linter.unusedVariables false
section
variable {P : Tb} {w0 : Base} {E : Env} {H H' : St} {w : World} {s : Lc} {L : Ls} {a : Act} {o : Oper} {v : Value}

theorem VR.agg_inv {vs : Array Value} {c : Value} (h : VR E (.agg vs) c) : ∃ cs : List Value, c = .agg ⟨cs⟩ ∧ VRL E vs.toList cs := by
  cases h with
  | flat h => simp [Go.Proofs.YthgjjogleklmcaaGreatDoor.Ev.flat] at h
  | agg h => exact ⟨_, rfl, h⟩
theorem VR.tuple_inv {vs : Array Value} {c : Value} (h : VR E (.tuple vs) c) : ∃ cs : List Value, c = .tuple ⟨cs⟩ ∧ VRL E vs.toList cs := by
  cases h with
  | flat h => simp [Go.Proofs.YthgjjogleklmcaaGreatDoor.Ev.flat] at h
  | tuple h => exact ⟨_, rfl, h⟩
theorem VR.iface_inv {t : TypeId} {u c : Value} (h : VR E (.iface t u) c) : ∃ d, c = .iface t d ∧ VR E u d := by
  cases h with
  | flat h => simp [Go.Proofs.YthgjjogleklmcaaGreatDoor.Ev.flat] at h
  | iface h => exact ⟨_, rfl, h⟩
theorem VR.map_inv {b : Nat} {c : Value} (h : VR E (.map (some b)) c) : ∃ B, c = .map (some B) ∧ E.bl b = some B := by
  cases h with
  | flat h => simp [Go.Proofs.YthgjjogleklmcaaGreatDoor.Ev.flat] at h
  | map h => exact ⟨_, rfl, h⟩
theorem VR.slice_inv {b : Addr} {n k : Nat} {c : Value} (h : VR E (.slice (some b) n k) c) : ∃ B k', c = .slice (some ⟨B, b.off, b.spot⟩) n k' ∧ E.bl b.block = some B ∧ CapR E k k' := by
  cases h with
  | flat h => simp [Go.Proofs.YthgjjogleklmcaaGreatDoor.Ev.flat] at h
  | slice h hc => exact ⟨_, _, rfl, h, hc⟩
theorem VR.func_inv {f : FuncId} {x y : Array Value} {c : Value} (h : VR E (.func (.func f) x y) c) : ∃ cs ds : List Value, c = .func (.func f) ⟨cs⟩ ⟨ds⟩ ∧ VRL E x.toList cs ∧ VRL E y.toList ds := by
  cases h with
  | flat h => simp [Go.Proofs.YthgjjogleklmcaaGreatDoor.Ev.flat] at h
  | func h h' => exact ⟨_, _, rfl, h, h'⟩

/-! ### makeInterface, makeFunc -/
theorem xMakeInterface_ok (K : TbOk P) {t : TypeId} {x : Operand} (hS : LocR E s L a) (hop : o.op = .makeInterface t x) (h : xMakeInterface t x P s L H o = .ok v H') : H' = H ∧ Quiet P E w o a v := by
  obtain ⟨i, h1, h⟩ := osel_did h (by simp)
  obtain ⟨h2, h⟩ := bsel_didN h (by simp)
  obtain ⟨u, h3, h⟩ := osel_did h (by simp)
  obtain ⟨rfl, rfl⟩ := ok_inj h
  refine ⟨rfl, _, .iface (hS x u h3), ?_⟩
  have hu := (K.ty t i h1).under
  simp only [execOp, hop, Instr.makeInterface, Sem.run_bind, run_underlying hu]
  revert h2
  cases i.under <;> simp [isIface]

theorem evL_ok (hS : LocR E s L a) : ∀ {l : List Operand} {vs : List Value}, evL s L l = some vs → VRL E vs (l.map a.eval)
  | [], vs, h => by cases h; exact .nil
  | x :: r, vs, h => by
    unfold evL at h
    rw [mapO_cons] at h
    obtain ⟨u, h1, h⟩ := osel_opt h
    obtain ⟨us, h2, h⟩ := osel_opt h
    cases h
    exact .cons (hS x u h1) (evL_ok hS h2)

theorem xMakeFunc_ok {fn : Fn} {first captured : Array Operand} (hS : LocR E s L a) (hop : o.op = .makeFunc fn first captured) (h : xMakeFunc fn first captured P s L H o = .ok v H') : H' = H ∧ Quiet P E w o a v := by
  obtain ⟨us, h1, h⟩ := osel_did h (by simp)
  obtain ⟨ds, h2, h⟩ := osel_did h (by simp)
  cases fn with
  | func f =>
    obtain ⟨rfl, rfl⟩ := ok_inj h
    refine ⟨rfl, _, .func (evL_ok hS h1) (evL_ok hS h2), ?_⟩
    have e1 : first.map a.eval = ⟨first.toList.map a.eval⟩ := by apply Array.ext'; simp
    have e2 : captured.map a.eval = ⟨captured.toList.map a.eval⟩ := by apply Array.ext'; simp
    simp [execOp, hop, Instr.makeFunc, e1, e2]
  | _ => exact nomatch h

/-! ### addresses -/
theorem addA_eq (b : Addr) (n : Nat) : addA b n = b.add n := by
  cases n with
  | zero => rfl
  | succ n => simp [addA, Addr.add]
theorem VR.add {b : Addr} {B n : Nat} (hB : E.bl b.block = some B) : VR E (.pointer (some (addA b n))) (.pointer (some ((⟨B, b.off, b.spot⟩ : Addr).add n))) := by
  rw [addA_eq]
  unfold Addr.add
  split
  · exact .ptr hB
  · exact .ptr hB

theorem fieldOf_ok (K : TbOk P) {t : TypeId} {f : Nat} {p : Field × TyI} (h : fieldOf P t f = some p) : ∃ fs, P.P.underlying t = some (.struct fs) ∧ fs[f]? = some p.1 ∧ TyOk P.P p.1.type p.2 := by
  obtain ⟨i, h1, h⟩ := osel_opt h
  obtain ⟨fs, h2, h⟩ := osel_opt h
  obtain ⟨fl, h3, h⟩ := osel_opt h
  obtain ⟨j, h4, h⟩ := osel_opt h
  cases h
  refine ⟨fs, ?_, h3, K.ty _ _ h4⟩
  rw [(K.ty t i h1).under]
  revert h2
  cases i.under <;> simp [fieldsOf]

theorem xFieldAddr_ok (K : TbOk P) {t : TypeId} {x : Operand} {f : Nat} (hS : LocR E s L a) (hop : o.op = .fieldAddr t x f) (h : xFieldAddr t x f P s L H o = .ok v H') : H' = H ∧ Quiet P E w o a v := by
  obtain ⟨p, h1, h⟩ := osel_did h (by simp)
  obtain ⟨h2, h⟩ := bsel_didN h (by simp)
  obtain ⟨u, h3, h⟩ := osel_did h (by simp)
  obtain ⟨b, rfl, h⟩ := withAddr_ok h (by simp)
  obtain ⟨rfl, rfl⟩ := ok_inj h
  obtain ⟨fs, h4, h5, h6⟩ := fieldOf_ok K h1
  obtain ⟨B, hB, hc⟩ := (hS x _ h3).pointer_inv
  refine ⟨rfl, _, VR.add hB, ?_⟩
  have hz : ¬ p.2.size = 0 := fun e => by rw [e] at h2; exact nomatch h2
  simp [execOp, hop, hc, Instr.fieldAt, Sem.run_bind, run_underlying h4, h5, Instr.sureAddr, fieldPlace, h6.sizeOf, hz]

theorem asNat_ok (hS : LocR E s L a) {x : Operand} {n : Nat} (h : asNat (evO s L x) = some n) : ∃ k, a.eval x = .int k (n : Int) := by
  unfold asNat at h
  obtain ⟨u, h1, h⟩ := osel_opt h
  cases u with
  | int k z =>
    cases z with
    | ofNat m => cases h; exact ⟨k, (hS x _ h1).plain rfl⟩
    | negSucc m => cases h
  | _ => cases h

theorem idxA_ok {b : Addr} {len i size : Nat} (h : idxA H b len i size = .ok v H') : H' = H ∧ i < len ∧ v = .pointer (some (addA b (i * size))) := by
  obtain ⟨h1, h⟩ := bsel_did h (by simp)
  obtain ⟨rfl, rfl⟩ := ok_inj h
  exact ⟨rfl, Nat.le_of_ble_eq_true h1, rfl⟩

theorem indexAddrD_inv {n : Nat} {u : Value} {d : TypeDesc} (h : indexAddrD P H n u d = .ok v H') :
    (∃ e j b len cap, d = .slice e ∧ P.ty.get e = some j ∧ u = .slice (some b) len cap ∧ idxA H b len n j.size = .ok v H') ∨
    (∃ m e j b, d = .array m e ∧ P.ty.get e = some j ∧ u = .pointer (some b) ∧ idxA H b m n j.size = .ok v H') := by
  cases d with
  | slice e =>
    obtain ⟨j, h4, h⟩ := osel_did h (by simp)
    cases u with
    | slice p len cap =>
      cases p with
      | some b => exact .inl ⟨e, j, b, len, cap, rfl, h4, rfl, h⟩
      | none => cases h
    | _ => cases h
  | array m e =>
    obtain ⟨j, h4, h⟩ := osel_did h (by simp)
    cases u with
    | pointer p =>
      cases p with
      | some b => exact .inr ⟨m, e, j, b, rfl, h4, rfl, h⟩
      | none => cases h
    | _ => cases h
  | _ => cases h

theorem xIndexAddr_ok (K : TbOk P) {t : TypeId} {x ix : Operand} (hS : LocR E s L a) (hop : o.op = .indexAddr t x ix) (h : xIndexAddr t x ix P s L H o = .ok v H') : H' = H ∧ Quiet P E w o a v := by
  obtain ⟨i, h1, h⟩ := osel_did h (by simp)
  obtain ⟨u, h2, h⟩ := osel_did h (by simp)
  obtain ⟨n, h3, h⟩ := osel_did h (by simp)
  obtain ⟨k, hk⟩ := asNat_ok hS h3
  have hu := (K.ty t i h1).under
  have hx := hS x u h2
  rcases indexAddrD_inv h with ⟨e, j, b, len, cap, hd, h4, rfl, hq⟩ | ⟨m, e, j, b, hd, h4, rfl, hq⟩
  · obtain ⟨rfl, hlt, rfl⟩ := idxA_ok hq
    obtain ⟨B, k', hc, hB, hcap⟩ := hx.slice_inv
    refine ⟨rfl, _, VR.add hB, ?_⟩
    rw [hd] at hu
    have hsz := (K.ty e j h4).sizeOf w
    simp [execOp, hop, hc, hk, Instr.indexAt, asIntOf, run_underlying hu, hsz, hlt]
  · obtain ⟨rfl, hlt, rfl⟩ := idxA_ok hq
    obtain ⟨B, hB, hc⟩ := hx.pointer_inv
    refine ⟨rfl, _, VR.add hB, ?_⟩
    rw [hd] at hu
    have hsz := (K.ty e j h4).sizeOf w
    simp [execOp, hop, hc, hk, Instr.indexAt, Instr.sureAddr, asIntOf, run_underlying hu, hsz, hlt]

/-! ### parts of values -/
theorem aggV_ok {k : List Value → Did} {x : Value} {d : Did} (h : aggV k x = d) (hd : ∀ n, d ≠ .fail n) : ∃ cs, x = .agg cs ∧ k cs.toList = d := by
  cases x with
  | agg cs => exact ⟨cs, rfl, h⟩
  | _ => exact absurd h.symm (hd _)
theorem partV_ok {t : TypeId} {i : TyI} (hi : TyOk P.P t i) {vs cs : List Value} (hv : VRL E vs cs) {off : Nat} (h : partV H i vs off = .ok v H') :
    H' = H ∧ ∃ c, VR E v c ∧ (part t ⟨cs⟩ off).run P.P w = .ok c w := by
  unfold partV at h
  cases ha : i.agg with
  | true =>
    rw [ha, bsel_t] at h
    obtain ⟨rfl, rfl⟩ := ok_inj h
    refine ⟨rfl, _, .agg ((hv.drop off).take i.size), ?_⟩
    have hag := hi.isAgg w
    rw [ha] at hag
    simp [part, hag, hi.sizeOf]
  | false =>
    rw [ha, bsel_f, nth_eq] at h
    obtain ⟨u, h1, h⟩ := osel_did h (by simp)
    obtain ⟨rfl, rfl⟩ := ok_inj h
    obtain ⟨c, h2, h3⟩ := hv.get off _ h1
    have hag := hi.isAgg w
    rw [ha] at hag
    exact ⟨rfl, c, h3, by simp [part, hag, h2]⟩

theorem xField_ok (K : TbOk P) {t : TypeId} {x : Operand} {f : Nat} (hS : LocR E s L a) (hop : o.op = .field t x f) (h : xField t x f P s L H o = .ok v H') : H' = H ∧ Quiet P E w o a v := by
  obtain ⟨p, h1, h⟩ := osel_did h (by simp)
  obtain ⟨u, h3, h⟩ := osel_did h (by simp)
  obtain ⟨cs, rfl, h⟩ := aggV_ok h (by simp)
  obtain ⟨fs, h4, h5, h6⟩ := fieldOf_ok K h1
  obtain ⟨ds, hc, hv⟩ := (hS x _ h3).agg_inv
  obtain ⟨rfl, c, h7, h8⟩ := partV_ok (w := w) h6 hv h
  exact ⟨rfl, c, h7, by simp [execOp, hop, hc, Instr.field, run_underlying h4, h5, asAgg, h8]⟩

theorem byte_nth (b : ByteArray) (n : Nat) : (b[n]? : Option UInt8) = b.data.toList[n]? := by
  by_cases h : n < b.size
  · have h2 : n < b.data.size := h
    rw [getElem?_pos b n h, Array.getElem?_toList, Array.getElem?_eq_getElem h2]
    rfl
  · have h2 : b.data.size ≤ n := Nat.le_of_not_lt h
    rw [getElem?_neg b n h, Array.getElem?_toList, Array.getElem?_eq_none h2]
theorem indexD_inv {n : Nat} {u : Value} {d : TypeDesc} (h : indexD P H n u d = .ok v H') :
    (∃ b c, d = .string ∧ u = .string b ∧ b.data.toList[n]? = some c ∧ v = byteV c ∧ H' = H) ∨
    (∃ m e j cs, d = .array m e ∧ P.ty.get e = some j ∧ n < m ∧ u = .agg cs ∧ partV H j cs.toList (n * j.size) = .ok v H') := by
  cases d with
  | string =>
    cases u with
    | string b =>
      change osel (nth b.data.toList n) _ _ = _ at h
      rw [nth_eq] at h
      obtain ⟨c, h4, h⟩ := osel_did h (by simp)
      obtain ⟨rfl, rfl⟩ := ok_inj h
      exact .inl ⟨b, c, rfl, rfl, h4, rfl, rfl⟩
    | _ => cases h
  | array m e =>
    obtain ⟨j, h4, h⟩ := osel_did h (by simp)
    obtain ⟨h5, h⟩ := bsel_did h (by simp)
    obtain ⟨cs, rfl, h⟩ := aggV_ok h (by simp)
    exact .inr ⟨m, e, j, cs, rfl, h4, Nat.le_of_ble_eq_true h5, rfl, h⟩
  | _ => cases h
theorem xIndex_ok (K : TbOk P) {t : TypeId} {x ix : Operand} (hS : LocR E s L a) (hop : o.op = .index t x ix) (h : xIndex t x ix P s L H o = .ok v H') : H' = H ∧ Quiet P E w o a v := by
  obtain ⟨i, h1, h⟩ := osel_did h (by simp)
  obtain ⟨u, h2, h⟩ := osel_did h (by simp)
  obtain ⟨n, h3, h⟩ := osel_did h (by simp)
  obtain ⟨k, hk⟩ := asNat_ok hS h3
  have hu := (K.ty t i h1).under
  have hx := hS x u h2
  rcases indexD_inv h with ⟨b, c, hd, rfl, h4, rfl, rfl⟩ | ⟨m, e, j, cs, hd, h4, hlt, rfl, hq⟩
  · have hc : a.eval x = .string b := hx.plain rfl
    rw [hd] at hu
    refine ⟨rfl, _, .flat rfl, ?_⟩
    have hb : (b[n]? : Option UInt8) = some c := (byte_nth b n).trans h4
    simp [execOp, hop, hc, hk, Instr.index, asIntOf, run_underlying hu, hb, byteV]
  · obtain ⟨ds, hc, hv⟩ := hx.agg_inv
    have hj := K.ty e j h4
    obtain ⟨rfl, c, h7, h8⟩ := partV_ok (w := w) hj hv hq
    rw [hd] at hu
    exact ⟨rfl, c, h7, by simp [execOp, hop, hc, hk, Instr.index, asIntOf, run_underlying hu, hlt, hj.sizeOf, h8]⟩

theorem xExtract_ok {x : Operand} {n : Nat} (hS : LocR E s L a) (hop : o.op = .extract x n) (h : xExtract x n P s L H o = .ok v H') : H' = H ∧ Quiet P E w o a v := by
  obtain ⟨u, h1, h⟩ := osel_did h (by simp)
  obtain ⟨vs, rfl, hq⟩ : ∃ vs, u = .tuple vs ∧ osel (nth vs.toList n) (.fail 192) (fun v => Did.ok v H) = .ok v H' := by
    cases u with
    | tuple vs => exact ⟨vs, rfl, h⟩
    | _ => cases h
  rw [nth_eq] at hq
  obtain ⟨c, h4, hq⟩ := osel_did hq (by simp)
  obtain ⟨rfl, rfl⟩ := ok_inj hq
  obtain ⟨ds, hc, hv⟩ := (hS x _ h1).tuple_inv
  obtain ⟨d, h5, h6⟩ := hv.get n _ h4
  exact ⟨rfl, d, h6, by simp [execOp, hop, hc, Instr.extract, h5]⟩

theorem VR.zero {z : List Value} (hz : plainL z = true) (g : Bool) : VR E (valueOf z g) (valueOf z g) := by
  cases g with
  | true => exact .agg (VRL.of_plain E z hz)
  | false =>
    cases z with
    | nil => exact .tuple .nil
    | cons x r => exact VR.of_plain E x (bsel_and hz).1
theorem TyOk.zero {Q : Program} {t : TypeId} {i : TyI} (h : TyOk Q t i) {z : List Value} (hz : i.zero = some z) : plainL z = true ∧ z.length = i.size := by
  obtain ⟨j, h1, h2, h3, h4⟩ := h.info
  obtain ⟨v, h5, h6, h7, h8, _⟩ := h4 z hz
  exact ⟨h7, h8⟩

theorem xTypeAssert_ok (K : TbOk P) {x : Operand} {t u : TypeId} {ok : Bool} (hS : LocR E s L a) (hop : o.op = .typeAssert x t u ok) (h : xTypeAssert x u ok P s L H o = .ok v H') : H' = H ∧ Quiet P E w o a v := by
  obtain ⟨i, h1, h⟩ := osel_did h (by simp)
  obtain ⟨y, h2, h⟩ := osel_did h (by simp)
  have hi := K.ty u i h1
  have hx := hS x y h2
  cases y with
  | nilIface =>
    obtain ⟨rfl, h⟩ := bsel_did h (by simp)
    obtain ⟨z, h3, h⟩ := osel_did h (by simp)
    obtain ⟨rfl, rfl⟩ := ok_inj h
    have hc : a.eval x = .nilIface := hx.plain rfl
    refine ⟨rfl, _, .tuple (.cons (VR.zero (hi.zero h3).1 i.agg) (.cons (.flat rfl) .nil)), ?_⟩
    have hzv := hi.zeroValue h3
    have hun := hi.under
    cases hd : i.under <;> rw [hd] at hun <;> simp [execOp, hop, hc, Instr.typeAssert, run_underlying hun, hzv]
  | iface t' y =>
    obtain ⟨h3, h⟩ := bsel_didN h (by simp)
    obtain ⟨d, hc, hy⟩ := hx.iface_inv
    have hun := hi.under
    cases hb : Nat.beq t' u with
    | true =>
      rw [hb, bsel_t] at h
      obtain ⟨rfl, rfl⟩ := ok_inj h
      have : t' = u := Nat.eq_of_beq_eq_true hb
      subst this
      refine ⟨rfl, if ok then .tuple #[d, .bool true] else d, ?_, ?_⟩
      · cases ok
        · exact hy
        · exact .tuple (.cons hy (.cons (.flat rfl) .nil))
      · cases hd : i.under <;> rw [hd] at hun h3 <;> first | (cases h3; done) | simp [execOp, hop, hc, Instr.typeAssert, run_underlying hun]
    | false =>
      rw [hb, bsel_f] at h
      obtain ⟨rfl, h⟩ := bsel_did h (by simp)
      obtain ⟨z, h4, h⟩ := osel_did h (by simp)
      obtain ⟨rfl, rfl⟩ := ok_inj h
      have hne : ¬ t' = u := fun e => by subst e; rw [Nat.beq_refl] at hb; cases hb
      refine ⟨rfl, _, .tuple (.cons (VR.zero (hi.zero h4).1 i.agg) (.cons (.flat rfl) .nil)), ?_⟩
      have hzv := hi.zeroValue h4
      cases hd : i.under <;> rw [hd] at hun h3 <;> first | (cases h3; done) | simp [execOp, hop, hc, Instr.typeAssert, run_underlying hun, hne, hzv]
  | _ => cases h
end
end Go.Proofs.YthgjjogleklmcaaGreatDoor.Ev
