/- The reckoner: part EvO. -/
import Derived.Test.YthgjjogleklmcaaGreatDoorEvW
namespace Go.Proofs.YthgjjogleklmcaaGreatDoor.Ev
open Go.RowKit
set_option linter.unusedVariables false

def isAggD : TypeDesc → Bool
  | .struct _ | .array _ _ => true
  | _ => false

/-- what a row of the table of types says -/
structure TyOk (P : Program) (t : TypeId) (i : TyI) : Prop where
  under : P.underlying t = some i.under
  agg : i.agg = isAggD i.under
  fields : ∀ fs, i.under = .struct fs → ∀ f ∈ fs.toList, ∃ j, P.info? f.type = some j
  info : ∃ j, P.info? t = some j ∧ j.size = i.size ∧ j.bytes = i.bytes ∧ ∀ z, i.zero = some z → ∃ v, j.zero = some v ∧ v.cells.toList = z ∧ plainL z = true ∧ z.length = i.size ∧ allL oneCell z = true ∧ v = valueOf z i.agg

inductive ExtOk (P : Program) (f : FuncId) : ExtI → Prop where
  | reckons {fn : Func} {e : Array Value → Sem Value} (hf : P.funcs[f]? = some fn) (hn : (fn.name == "runtime.NumGoroutine") = false) (hb : fn.body.isNone = true) (h1 : Extern.findNext fn = none) (h2 : Extern.find fn = some e) : ExtOk P f (.reckons e)
  | same {fn : Func} {e : Array Value → Sem Value} (hf : P.funcs[f]? = some fn) (hn : (fn.name == "runtime.NumGoroutine") = false) (hb : fn.body.isNone = true) (h1 : Extern.findNext fn = none) (h2 : Extern.find fn = some e)
      (h3 : ∀ v w, (e #[v]).run P w = .ok v w) : ExtOk P f .same

structure TbOk (P : Tb) : Prop where
  ty : ∀ t i, P.ty.get t = some i → TyOk P.P t i
  fn : ∀ f fn, P.fn.get f = some fn → P.P.funcs[f]? = some fn ∧ (fn.body.isSome = true → (fn.name == "runtime.NumGoroutine") = false)
  ext : ∀ f e, P.ext.get f = some e → ExtOk P.P f e
  mixed : P.P.follows .mixedOrders = true

/-- the operands are read -/
def LocR (E : Env) (s : Lc) (L : Ls) (a : Act) : Prop := ∀ x v, evO s L x = some v → VR E v (a.eval x)

/-- the operation yields the value, and nothing turns -/
def Quiet (P : Tb) (E : Env) (w : World) (o : Oper) (a : Act) (v : Value) : Prop := ∃ c, VR E v c ∧ (execOp a.eval o).run P.P w = .ok (.value c) w

theorem ok_inj {v v' : Value} {H H' : St} (h : Did.ok v H = .ok v' H') : v = v' ∧ H' = H := by cases h; exact ⟨rfl, rfl⟩

section
variable {P : Tb} {w0 : Base} {E : Env} {H H' : St} {w : World} {s : Lc} {L : Ls} {a : Act} {o : Oper} {v : Value}

theorem TyOk.isAgg {Q : Program} {t : TypeId} {i : TyI} (h : TyOk Q t i) (w : World) : (isAgg t).run Q w = .ok i.agg w := by
  rw [h.agg]
  unfold Go.isAgg
  rw [Sem.run_bind, run_underlying h.under w]
  cases i.under <;> simp [isAggD]
theorem TyOk.sizeOf {Q : Program} {t : TypeId} {i : TyI} (h : TyOk Q t i) (w : World) : (Go.sizeOf t).run Q w = .ok i.size w := by
  obtain ⟨j, h1, h2, _⟩ := h.info
  simp [Go.sizeOf, typeInfo, h1, h2]
theorem TyOk.typeInfo {Q : Program} {t : TypeId} {i : TyI} (h : TyOk Q t i) : ∃ j, Q.info? t = some j ∧ j.size = i.size ∧ j.bytes = i.bytes := by
  obtain ⟨j, h1, h2, h3, _⟩ := h.info
  exact ⟨j, h1, h2, h3⟩
theorem TyOk.zeroValue {Q : Program} {t : TypeId} {i : TyI} (h : TyOk Q t i) {z : List Value} (hz : i.zero = some z) (w : World) : (Go.zeroValue t).run Q w = .ok (valueOf z i.agg) w := by
  obtain ⟨j, h1, h2, h3, h4⟩ := h.info
  obtain ⟨v, h5, h6, _, _, _, h7⟩ := h4 z hz
  simp [Go.zeroValue, Go.typeInfo, h1, h5, h7]

theorem pureRun_run {α : Type} (Q : Program) : ∀ (e : Sem α) (x : α), pureRun Q e = some x → ∀ w, e.run Q w = .ok x w
  | .pure a, x, h, w => by cases h; rfl
  | .program k, x, h, w => pureRun_run Q (k Q) x h w
  | .mark m k, x, h, w => pureRun_run Q k x h w
  | .load _ _ _, _, h, _ | .store _ _ _ _, _, h, _ | .new _ _, _, h, _ | .shape _ _, _, h, _ | .freeze _ _ _, _, h, _ | .frozen _ _, _, h, _ | .getObj _ _, _, h, _
  | .setObj _ _ _, _, h, _ | .choose _ _, _, h, _ | .sys _ _, _, h, _ | .halt _, _, h, _ => by simp [pureRun] at h

theorem allL_mem {α : Type} {f : α → Bool} : ∀ {l : List α}, allL f l = true → ∀ x ∈ l, f x = true
  | [], _, x, hx => by simp at hx
  | y :: r, h, x, hx => by
    obtain ⟨h1, h2⟩ := bsel_and h
    rcases List.mem_cons.1 hx with rfl | hx
    · exact h1
    · exact allL_mem h2 x hx

theorem execPure_ok (hS : LocR E s L a) (hs : ∀ cs b, o.op ≠ .select cs b) (h : execPure P s L H o = .ok v H') : H' = H ∧ Quiet P E w o a v := by
  unfold execPure at h
  obtain ⟨h1, h⟩ := bsel_did h (by simp)
  have h1 := allL_mem h1
  have hc : execOp a.eval o = execOp (fun x => (evO s L x).getD (.tuple #[])) o := execOp_congr o hs fun x hx => by
    have hp := h1 x (by simpa using hx)
    unfold plainO at hp
    cases he : evO s L x with
    | none => rw [he] at hp; cases hp
    | some u =>
      rw [he, osel_s] at hp
      simpa using (hS x u he).plain hp
  cases hp : pureRun P.P (execOp (fun x => (evO s L x).getD (.tuple #[])) o) with
  | none => rw [hp] at h; cases h
  | some n =>
    rw [hp] at h
    have hr := pureRun_run P.P _ _ hp w
    rw [← hc] at hr
    cases n <;> simp only [pureDid] at h <;> try (cases h; done)
    case value u =>
      obtain ⟨h2, h⟩ := bsel_did h (by simp)
      obtain ⟨rfl, rfl⟩ := ok_inj h
      exact ⟨rfl, u, VR.of_plain E u h2, hr⟩

theorem xMove_ok {x : Operand} (hS : LocR E s L a) (hop : o.op = .move x ∨ o.op = .assign x) (h : xMove x P s L H o = .ok v H') : H' = H ∧ Quiet P E w o a v := by
  obtain ⟨u, h1, h⟩ := osel_did h (by simp)
  obtain ⟨rfl, rfl⟩ := ok_inj h
  refine ⟨rfl, a.eval x, hS x u h1, ?_⟩
  rcases hop with hop | hop <;> simp [execOp, hop]

theorem xPick_ok {c x y : Operand} (hS : LocR E s L a) (hop : o.op = .pick c x y) (h : xPick c x y P s L H o = .ok v H') : H' = H ∧ Quiet P E w o a v := by
  obtain ⟨u, h1, h⟩ := osel_did h (by simp)
  obtain ⟨t, rfl⟩ : ∃ t, u = .bool t := by
    cases u with
    | bool t => exact ⟨t, rfl⟩
    | _ => exact nomatch h
  have ht : a.eval c = .bool t := (hS c _ h1).plain rfl
  cases t
  · obtain ⟨z, h2, h⟩ := osel_did h (by simp)
    obtain ⟨rfl, rfl⟩ := ok_inj h
    exact ⟨rfl, a.eval y, hS y _ h2, by simp [execOp, hop, ht, asBool]⟩
  · obtain ⟨z, h2, h⟩ := osel_did h (by simp)
    obtain ⟨rfl, rfl⟩ := ok_inj h
    exact ⟨rfl, a.eval x, hS x _ h2, by simp [execOp, hop, ht, asBool]⟩

theorem VR.pointer_inv {b : Addr} {c : Value} (h : VR E (.pointer (some b)) c) : ∃ B, E.bl b.block = some B ∧ c = .pointer (some ⟨B, b.off, b.spot⟩) := by
  cases h with
  | flat h => simp [Go.Proofs.YthgjjogleklmcaaGreatDoor.Ev.flat] at h
  | ptr h => exact ⟨_, h, rfl⟩
theorem withAddr_ok {k : Addr → Did} {x : Value} {d : Did} (h : withAddr k x = d) (hd : ∀ n, d ≠ .fail n) : ∃ b, x = .pointer (some b) ∧ k b = d := by
  cases x with
  | pointer p =>
    cases p with
    | none => exact absurd h.symm (hd _)
    | some b => exact ⟨b, rfl, h⟩
  | _ => exact absurd h.symm (hd _)

/-- a variable is read -/
theorem loadAddr_ok (K : TbOk P) (hR : Rep P.P w0 E H w) {t : TypeId} {b : Addr} {c : Value} (hb : VR E (.pointer (some b)) c) (h : loadAddr P H t b = .ok v H') :
    H' = H ∧ ∃ c', VR E v c' ∧ (Instr.loadAt t c).run P.P w = .ok c' w ∧ ∃ ad, c = .pointer (some ad) ∧ (loadVar t ad).run P.P w = .ok c' w := by
  obtain ⟨B, hB, rfl⟩ := hb.pointer_inv
  unfold loadAddr at h
  obtain ⟨h1, h⟩ := bsel_did h (by simp)
  obtain ⟨i, h2, h⟩ := osel_did h (by simp)
  obtain ⟨k, h3, h⟩ := osel_did h (by simp)
  have hi := K.ty t i h2
  obtain ⟨j, hj1, hj2, hj3⟩ := hi.typeInfo
  obtain ⟨B', ob, hB', hob, hk⟩ := hR.blk b.block k h3
  rw [hB] at hB'; cases hB'
  rw [noSpot_iff h1]
  cases k <;> simp only [loadB] at h <;> try (cases h; done)
  rename_i elem n d cs g fz st ro
  obtain ⟨C, fr, rfl, hrow⟩ := hk
  cases ha : i.agg with
  | true =>
    rw [ha, bsel_t] at h
    obtain ⟨l, h4, h⟩ := osel_did h (by simp)
    obtain ⟨rfl, rfl⟩ := ok_inj h
    obtain ⟨h5, h6⟩ := BT.getL_some cs i.size b.off l h4
    have hcs : ∀ j v, l[j]? = some v → ∃ c, C[b.off + j]? = some c ∧ VR E v c := fun j v hj => hrow.cells _ _ (h6 j v hj)
    have hle : b.off + l.length ≤ C.size ∨ l.length = 0 := by
      rcases Nat.eq_zero_or_pos l.length with h0 | h0
      · exact .inr h0
      · left
        obtain ⟨c, hc, _⟩ := hcs (l.length - 1) l[l.length - 1] (List.getElem?_eq_getElem (by omega))
        have := (Array.getElem?_eq_some_iff.1 hc).1
        omega
    let cl : List Value := (C.toList.drop b.off).take l.length
    have hcl : cl.length = l.length := by simp only [cl, List.length_take, List.length_drop, Array.length_toList]; omega
    have hget : ∀ j, j < l.length → cl[j]? = C[b.off + j]? := fun j hj => by
      simp [cl, List.getElem?_drop, hj]
    have hVR : VRL E l cl := VRL.of_get hcl.symm fun j v c hv hc => by
      obtain ⟨c', h7, h8⟩ := hcs j v hv
      have hj : j < l.length := (List.getElem?_eq_some_iff.1 hv).1
      rw [hget j hj, h7] at hc; cases hc; exact h8
    have hrange : w.rangeAt B b.off cl := fun j v hv => by
      have hj : j < l.length := by rw [← hcl]; exact (List.getElem?_eq_some_iff.1 hv).1
      simp only [World.cell?, hob, Option.isSome_none, Bool.false_eq_true, if_false]
      rw [← hget j hj]; exact hv
    have hd : i.under.isRow = true := by
      have := hi.agg; rw [ha] at this
      revert this; cases i.under <;> simp [isAggD, TypeDesc.isRow]
    have hsz : (P.P.info? t).map (·.size) = some cl.length := by simp [hj1, hj2, hcl, h5]
    exact ⟨rfl, _, .agg hVR, run_loadAt_mid w B b.off t cl i.under hrange hi.under hd hsz, _, rfl, run_loadVar_mid w B b.off t cl i.under hrange hi.under hd hsz⟩
  | false =>
    rw [ha, bsel_f] at h
    obtain ⟨u, h4, h⟩ := osel_did h (by simp)
    obtain ⟨rfl, rfl⟩ := ok_inj h
    obtain ⟨c, h5, h6⟩ := hrow.cells _ _ h4
    have hag := hi.isAgg w
    rw [ha] at hag
    have hcell : w.cell? ⟨B, b.off, none⟩ = some c := by simp [World.cell?, hob, h5]
    have hl : (loadVar t ⟨B, b.off, none⟩).run P.P w = .ok c w := by simp [loadVar, hag, Go.load, Sem.run, hcell]
    exact ⟨rfl, c, h6, by simp [Instr.loadAt, Instr.sureAddr, hl], _, rfl, hl⟩

theorem xLoad_ok (K : TbOk P) (hR : Rep P.P w0 E H w) {t : TypeId} {x : Operand} (hS : LocR E s L a) (hop : o.op = .load t x) (h : xLoad t x P s L H o = .ok v H') : H' = H ∧ Quiet P E w o a v := by
  obtain ⟨u, h1, h⟩ := osel_did h (by simp)
  obtain ⟨b, rfl, h⟩ := withAddr_ok h (by simp)
  obtain ⟨rfl, c', h2, h3, _⟩ := loadAddr_ok K hR (hS x _ h1) h
  exact ⟨rfl, c', h2, by simp [execOp, hop, h3]⟩

theorem xNilCheck_ok {x : Operand} (hS : LocR E s L a) (hop : o.op = .nilCheck x) (h : xNilCheck x P s L H o = .ok v H') : H' = H ∧ Quiet P E w o a v := by
  obtain ⟨u, h1, h⟩ := osel_did h (by simp)
  have hu := hS x u h1
  generalize hc : a.eval x = c at hu
  cases hu with
  | flat hf =>
    rename_i u
    cases u <;> simp only [nilV] at h <;> try (cases h; done)
    all_goals first | (simp [Go.Proofs.YthgjjogleklmcaaGreatDoor.Ev.flat] at hf; done) | (rename_i p; cases p <;> first | (simp [Go.Proofs.YthgjjogleklmcaaGreatDoor.Ev.flat] at hf; done) | (cases h; done))
  | ptr hb => obtain ⟨rfl, rfl⟩ := ok_inj h; exact ⟨rfl, _, .ptr hb, by simp [execOp, hop, hc]⟩
  | iface hb => obtain ⟨rfl, rfl⟩ := ok_inj h; exact ⟨rfl, _, .iface hb, by simp [execOp, hop, hc]⟩
  | func hb hb' => obtain ⟨rfl, rfl⟩ := ok_inj h; exact ⟨rfl, _, .func hb hb', by simp [execOp, hop, hc]⟩
  | slice _ _ => cases h
  | map _ => cases h
  | hole => cases h
  | agg _ => cases h
  | tuple _ => cases h
end
end Go.Proofs.YthgjjogleklmcaaGreatDoor.Ev
