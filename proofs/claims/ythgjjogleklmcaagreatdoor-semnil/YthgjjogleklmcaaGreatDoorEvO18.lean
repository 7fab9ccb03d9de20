/- The reckoner: part EvO18. -/
import Derived.Test.YthgjjogleklmcaaGreatDoorEvO17
import Derived.Laws.Externs
namespace Go.Proofs.YthgjjogleklmcaaGreatDoor.Ev
open Go.RowKit
set_option linter.unusedVariables false
section
variable {P : Tb} {w0 : Base} {E : Env} {H H' : St} {w : World} {s : Lc} {L : Ls} {a : Act} {o : Oper} {v c d : Value}

/-- a deferred call -/
def DefR (P : Tb) (E : Env) (f : FuncId) (args : List Value) (dd : Deferred) : Prop :=
  ∃ fv cap cargs, dd.target = .fn fv cap ∧ VRL E args cargs ∧ ∀ w', (invoke dd.target dd.args).run P.P w' = .ok (.enter f cargs.toArray) w'

/-- WHAT AN OPERATION DOES, AS THE RECKONER SAYS -/
def DidOk (P : Tb) (w0 : Base) (E : Env) (H : St) (w : World) (o : Oper) (a : Act) : Did → Prop
  | .ok v H' => Acted P w0 E H' w o a v
  | .call f args => ∃ cargs, VRL E args cargs ∧ (execOp a.eval o).run P.P w = .ok (.enter f cargs.toArray) w
  | .pan v => ∃ c, VR E v c ∧ (execOp a.eval o).run P.P w = .halt (.panic c) w
  | .defer f args => ∃ dd, (execOp a.eval o).run P.P w = .ok (.defer dd) w ∧ DefR P E f args dd
  | .recover => (execOp a.eval o).run P.P w = .ok .recover w
  | .fail _ => True

theorem onlyOk_did {dd : Did} (h : ∀ v H', dd = .ok v H' → Acted P w0 E H' w o a v) : DidOk P w0 E H w o a (onlyOk dd) := by
  cases dd with
  | ok v H' => exact h v H' rfl
  | _ => trivial

theorem run_callFunc_body {Q : Program} {f : FuncId} {fn : Func} {cd : Code} (hf : Q.funcs[f]? = some fn) (hname : (fn.name == "runtime.NumGoroutine") = false) (hb : fn.body = some cd) (args : Array Value) (w : World) :
    (callFunc f args).run Q w = .ok (.enter f args) w := by
  have h1 : fn.name ≠ "runtime.NumGoroutine" := by simpa using hname
  simp [callFunc, hf, h1, hb]

/-- a function is called -/
theorem enterF1_ok (K : TbOk P) {f : FuncId} {fn : Func} (hf : P.fn.get f = some fn) {args cargs : List Value} (hv : VRL E args cargs) :
    match enterF1 P H f args fn with
    | .ok v H' => H' = H ∧ ∃ c, VR E v c ∧ (callFunc f cargs.toArray).run P.P w = .ok (.value c) w
    | .call g xs => g = f ∧ xs = args ∧ ∀ w', (callFunc f cargs.toArray).run P.P w' = .ok (.enter f cargs.toArray) w'
    | .fail _ => True
    | _ => False := by
  obtain ⟨h1, h2⟩ := K.fn f fn hf
  unfold enterF1
  cases hb : fn.body with
  | some cd =>
    exact ⟨rfl, rfl, fun w' => run_callFunc_body h1 (h2 (by rw [hb]; rfl)) hb _ w'⟩
  | none =>
    rw [osel_n]
    cases he : P.ext.get f with
    | none => trivial
    | some e =>
      rw [osel_s]
      have hk := K.ext f e he
      cases hk with
      | reckons g1 g2 g3 g4 g5 =>
        rename_i fn' e
        unfold extD
        dsimp only
        cases h3 : plainL args with
        | false => trivial
        | true =>
          rw [bsel_t]
          cases h4 : pureRun P.P (e args.toArray) with
          | none => trivial
          | some v =>
            rw [osel_s]
            cases h5 : plain v with
            | false => trivial
            | true =>
              rw [bsel_t]
              have := hv.plain h3
              subst this
              refine ⟨rfl, v, VR.of_plain E v h5, ?_⟩
              rw [run_callFunc_extern g1 g2 g3 g4 g5, pureRun_run P.P _ _ h4 w]
              rfl
      | same g1 g2 g3 g4 g5 g6 =>
        unfold extD
        cases hv with
        | nil => trivial
        | cons hx hr =>
          cases hr with
          | cons _ _ => trivial
          | nil =>
            refine ⟨rfl, _, hx, ?_⟩
            rw [run_callFunc_extern g1 g2 g3 g4 g5]
            rename_i x c
            have : ([c].toArray : Array Value) = #[c] := rfl
            rw [this, g6]
            rfl

theorem enterV_ok (K : TbOk P) {fv cf : Value} (hx : VR E fv cf) {args cargs : List Value} (hv : VRL E args cargs) :
    match enterV P H args fv with
    | .ok v H' => H' = H ∧ ∃ c dd, VR E v c ∧ (Deferred.ofValue cf cargs.toArray).run P.P w = .ok dd w ∧ (invoke dd.target dd.args).run P.P w = .ok (.value c) w
    | .call g xs => ∃ ys dd fv cap, VRL E xs ys ∧ (Deferred.ofValue cf cargs.toArray).run P.P w = .ok dd w ∧ dd.target = .fn fv cap ∧ ∀ w', (invoke dd.target dd.args).run P.P w' = .ok (.enter g ys.toArray) w'
    | .fail _ => True
    | _ => False := by
  cases fv with
  | func fn first captured =>
    cases fn with
    | func f =>
      obtain ⟨cs, ds, rfl, h1, h2⟩ := hx.func_inv
      unfold enterV
      simp only []
      cases hf : P.fn.get f with
      | none => trivial
      | some fn =>
        rw [osel_s]
        have hall : VRL E (first.toList ++ (args ++ captured.toList)) (cs ++ (cargs ++ ds)) := h1.append (hv.append h2)
        have := enterF1_ok (H := H) (w := w) K hf hall
        have e1 : ((⟨cs⟩ : Array Value) ++ cargs.toArray) ++ (⟨ds⟩ : Array Value) = (cs ++ (cargs ++ ds)).toArray := by apply Array.ext'; simp
        have hd : (Deferred.ofValue (.func (.func f) ⟨cs⟩ ⟨ds⟩) cargs.toArray).run P.P w = .ok { target := .fn (.func f) ⟨ds⟩, args := (⟨cs⟩ : Array Value) ++ cargs.toArray } w := rfl
        cases hd2 : enterF1 P H f (first.toList ++ (args ++ captured.toList)) fn with
        | ok v H' =>
          rw [hd2] at this
          obtain ⟨rfl, c, g1, g2⟩ := this
          exact ⟨rfl, c, _, g1, hd, by show (callFunc f _).run P.P w = _; rw [e1]; exact g2⟩
        | call g xs =>
          rw [hd2] at this
          obtain ⟨rfl, rfl, g2⟩ := this
          exact ⟨_, _, _, _, hall, hd, rfl, fun w' => by show (callFunc g _).run P.P w' = _; rw [e1]; exact g2 w'⟩
        | fail _ => trivial
        | _ => rw [hd2] at this; exact this
    | _ => trivial
  | _ => trivial

theorem toArr (args : Array Operand) : args.map a.eval = (args.toList.map a.eval).toArray := by apply Array.ext'; simp

theorem builtinD_ok (K : TbOk P) (hR : Rep P.P w0 E H w) {cl : Call} {b : Builtin} (hS : LocR E s L a) (hop : o.op = .call cl) (hc : cl.callee = .builtin b) {args : List Value} (hv : VRL E args (cl.args.toList.map a.eval))
    (h : builtinD b P H cl.argTypes.toList args (execPure P s L H o) = .ok v H') : Acted P w0 E H' w o a v := by
  cases b with
  | append =>
    obtain ⟨h1, h⟩ := bsel_did h (by simp)
    have h1 : cl.argTypes.toList.length = 2 := Nat.eq_of_beq_eq_true h1
    rw [Array.length_toList] at h1
    obtain ⟨E', w', c', g1, g2, g3, g4⟩ := append2_ok (ty := o.type) K hR h1 hv h
    refine ⟨E', w', c', _, g1, g2, g3, .inl rfl, ?_⟩
    simp only [execOp, hop, resolve, hc, toArr, Sem.run_bind, Sem.run_pure, Result.andThen_ok, invoke, builtin, g4]
  | len =>
    obtain ⟨rfl, h1, h2⟩ := len1_ok (ty := o.type) (w := w) K hR hv h
    refine ⟨E, w, v, _, .refl E, hR, VR.of_plain E v h1, .inl rfl, ?_⟩
    simp only [execOp, hop, resolve, hc, toArr, Sem.run_bind, Sem.run_pure, Result.andThen_ok, invoke, builtin, h2]
  | copy =>
    obtain ⟨w', g1, g2, g3⟩ := copy2_ok (ty := o.type) K hR hv h
    refine ⟨E, w', v, _, .refl E, g1, VR.of_plain E v g2, .inl rfl, ?_⟩
    simp only [execOp, hop, resolve, hc, toArr, Sem.run_bind, Sem.run_pure, Result.andThen_ok, invoke, builtin, g3]
  | unsafeSliceData =>
    obtain ⟨rfl, c', g1, g2⟩ := sliceData_ok (ty := o.type) (ts := cl.argTypes) (w := w) K hR hv h
    refine ⟨E, w, c', _, .refl E, hR, g1, .inl rfl, ?_⟩
    simp only [execOp, hop, resolve, hc, toArr, Sem.run_bind, Sem.run_pure, Result.andThen_ok, invoke, builtin, g2]
  | unsafeString =>
    obtain ⟨h1, h⟩ := bsel_did h (by simp)
    have h1 : cl.argTypes.toList.length = 2 := Nat.eq_of_beq_eq_true h1
    rw [Array.length_toList] at h1
    obtain ⟨w', g1, g2, g3⟩ := unsafeStr_ok (ty := o.type) K hR h1 hv h
    refine ⟨E, w', v, _, .refl E, g1, VR.of_plain E v g2, .inl rfl, ?_⟩
    simp only [execOp, hop, resolve, hc, toArr, Sem.run_bind, Sem.run_pure, Result.andThen_ok, invoke, builtin, g3]
  | min => obtain ⟨rfl, hq⟩ := execPure_ok (w := w) hS (by simp [hop]) h; exact hq.acted hR
  | max => obtain ⟨rfl, hq⟩ := execPure_ok (w := w) hS (by simp [hop]) h; exact hq.acted hR
  | _ => cases h

theorem methodOf_ok (K : TbOk P) {t : TypeId} {u cu : Value} (hx : VR E u cu) {name : String} {args cargs : List Value} (hv : VRL E args cargs) {dd : Did} (h : methodOf P t u name args = dd) :
    (∃ n, dd = .fail n) ∨ ∃ f xs ys, dd = .call f xs ∧ VRL E xs ys ∧ (callMethod (.iface t cu) name cargs.toArray).run P.P w = .ok (.enter f ys.toArray) w := by
  unfold methodOf at h
  cases h1 : P.P.info? t with
  | none => rw [h1] at h; exact .inl ⟨_, h.symm⟩
  | some i =>
    rw [h1, osel_s] at h
    cases h2 : i.methods.find? (·.name == name) with
    | none => rw [h2] at h; exact .inl ⟨_, h.symm⟩
    | some m =>
      rw [h2, osel_s] at h
      cases h3 : m.path.isEmpty with
      | false => rw [h3] at h; exact .inl ⟨_, h.symm⟩
      | true =>
        rw [h3, bsel_t] at h
        cases h4 : m.func with
        | none => rw [h4] at h; exact .inl ⟨_, h.symm⟩
        | some fp =>
          rw [h4, osel_s] at h
          cases h5 : P.ty.get t with
          | none => rw [h5] at h; exact .inl ⟨_, h.symm⟩
          | some ti =>
            rw [h5, osel_s] at h
            cases h6 : bsel (isPtr ti.under) fp.2 (not fp.2) with
            | false => rw [h6] at h; exact .inl ⟨_, h.symm⟩
            | true =>
              rw [h6, bsel_t] at h
              cases h7 : P.fn.get fp.1 with
              | none => rw [h7] at h; exact .inl ⟨_, h.symm⟩
              | some fn =>
                rw [h7, osel_s] at h
                cases h8 : fn.body with
                | none => rw [h8] at h; exact .inl ⟨_, h.symm⟩
                | some cd =>
                  rw [h8, osel_s] at h
                  right
                  refine ⟨fp.1, u :: args, cu :: cargs, h.symm, .cons hx hv, ?_⟩
                  obtain ⟨q1, q2⟩ := K.fn _ _ h7
                  have hu := (K.ty t ti h5).under
                  have hpath : m.path.toList = [] := by rw [Array.isEmpty_iff.1 h3]
                  obtain ⟨f, p⟩ := fp
                  have hrecv : ∀ nm : Option String, (receiverAt t (.val cu) p nm).run P.P w = .ok cu w := fun nm => by
                    cases hd : ti.under with
                    | pointer e =>
                      rw [hd] at h6 hu
                      have : p = true := h6
                      subst this
                      simp [receiverAt, run_underlying hu, Place.get]
                    | _ =>
                      rw [hd] at h6 hu
                      have : p = false := by simpa [bsel, isPtr] using h6
                      subst this
                      simp [receiverAt, run_underlying hu, Place.get]
                  have hm : ∀ fuel : Nat, (method (fuel + 1) t cu name).run P.P w = .ok (f, cu) w := fun fuel => by
                    simp [method, Go.typeInfo, h1, h2, hpath, follow, h4, hrecv]
                  have hfuel : P.P.types.size + Made.depth = (P.P.types.size + 99) + 1 := rfl
                  have hcall := run_callFunc_body q1 (q2 (by rw [h8]; rfl)) h8 (cu :: cargs).toArray w
                  simp only [callMethod, Sem.run_bind, program, Sem.run, Result.andThen_ok, hfuel, hm]
                  have e1 : (#[cu] ++ cargs.toArray) = (cu :: cargs).toArray := by apply Array.ext'; simp
                  rw [e1]
                  exact hcall

theorem xCall_ok (K : TbOk P) (hR : Rep P.P w0 E H w) {cl : Call} (hS : LocR E s L a) (hop : o.op = .call cl) : DidOk P w0 E H w o a (xCall cl P s L H o) := by
  unfold xCall
  cases h1 : evL s L cl.args.toList with
  | none => trivial
  | some args =>
    rw [osel_s]
    have hv := evL_ok hS h1
    unfold calleeD
    cases hc : cl.callee with
    | value f =>
      dsimp only
      cases h2 : evO s L f with
      | none => trivial
      | some fv =>
        rw [osel_s]
        have := enterV_ok (H := H) (w := w) K (hS f fv h2) hv
        cases hd : enterV P H args fv with
        | ok v H' =>
          rw [hd] at this
          obtain ⟨rfl, c, dd, g1, g2, g3⟩ := this
          refine ⟨E, w, c, _, .refl E, hR, g1, .inl rfl, ?_⟩
          simp only [execOp, hop, resolve, hc, toArr, Sem.run_bind, g2, Result.andThen_ok, g3]
        | call g xs =>
          rw [hd] at this
          obtain ⟨ys, dd, fv', cap, g1, g2, g3, g4⟩ := this
          refine ⟨ys, g1, ?_⟩
          simp only [execOp, hop, resolve, hc, toArr, Sem.run_bind, g2, Result.andThen_ok, g4]
        | fail _ => trivial
        | _ => rw [hd] at this; exact this.elim
    | invoke r name =>
      dsimp only
      cases h2 : evO s L r with
      | none => trivial
      | some rv =>
        rw [osel_s]
        have hr := hS r rv h2
        cases rv with
        | iface t u =>
          obtain ⟨cu, hcu, hu⟩ := hr.iface_inv
          rcases methodOf_ok (w := w) K hu hv (name := name) (dd := methodOf P t u name args) rfl with ⟨n, hn⟩ | ⟨f, xs, ys, hn, g1, g2⟩
          · show DidOk P w0 E H w o a (methodOf P t u name args); rw [hn]; trivial
          · show DidOk P w0 E H w o a (methodOf P t u name args)
            rw [hn]
            refine ⟨ys, g1, ?_⟩
            have e1 : (#[Value.iface t cu] ++ (cl.args.toList.map a.eval).toArray)[0]? = some (Value.iface t cu) := by simp
            have e2 : (#[Value.iface t cu] ++ (cl.args.toList.map a.eval).toArray).extract 1 (#[Value.iface t cu] ++ (cl.args.toList.map a.eval).toArray).size = (cl.args.toList.map a.eval).toArray := by
              apply Array.ext'
              simp [List.extract]
              exact List.take_of_length_le (by simp)
            simp only [execOp, hop, resolve, hc, toArr, hcu, Sem.run_bind, Sem.run_pure, Result.andThen_ok, invoke, e1, e2, g2]
        | _ => trivial
    | builtin b =>
      dsimp only
      cases hb : isRecover b with
      | true =>
        rw [bsel_t]
        cases b <;> first | (cases hb; done) | skip
        show (execOp a.eval o).run P.P w = .ok .recover w
        simp only [execOp, hop, resolve, hc, Sem.run_bind, Sem.run_pure, Result.andThen_ok, invoke, builtin]
      | false =>
        rw [bsel_f]
        exact onlyOk_did fun v H' h => builtinD_ok K hR hS hop hc hv h

theorem xDefer_ok (K : TbOk P) {cl : Call} (hS : LocR E s L a) (hop : o.op = .defer cl) : DidOk P w0 E H w o a (xDefer cl P s L H o) := by
  unfold xDefer
  cases hc : cl.callee with
  | value f =>
    dsimp only
    cases h1 : evL s L cl.args.toList with
    | none => trivial
    | some args =>
      rw [osel_s]
      have hv := evL_ok hS h1
      cases h2 : evO s L f with
      | none => trivial
      | some fv =>
        rw [osel_s]
        have := enterV_ok (H := H) (w := w) K (hS f fv h2) hv
        cases hd : enterV P H args fv with
        | call g xs =>
          rw [hd] at this
          obtain ⟨ys, dd, fv', cap, g1, g2, g3, g4⟩ := this
          refine ⟨dd, ?_, fv', cap, ys, g3, g1, g4⟩
          simp only [execOp, hop, resolve, hc, toArr, Sem.run_bind, g2, Result.andThen_ok, Sem.run_pure]
        | _ => trivial
  | _ => trivial

theorem xPanic_ok {x : Operand} (hS : LocR E s L a) (hop : o.op = .panic x) : DidOk P w0 E H w o a (xPanic x P s L H o) := by
  unfold xPanic
  cases h1 : evO s L x with
  | none => trivial
  | some u =>
    rw [osel_s]
    have hx := hS x u h1
    cases u with
    | iface t z =>
      obtain ⟨cz, hc, hz⟩ := hx.iface_inv
      refine ⟨_, hx, ?_⟩
      simp [execOp, hop, hc, Instr.panic, goPanic, Sem.run]
    | _ => trivial

theorem exec_ok (K : TbOk P) (hR : Rep P.P w0 E H w) (hS : LocR E s L a) : DidOk P w0 E H w o a (execT o.op P s L H o) := by
  have q : ∀ {dd : Did}, (∀ v H', dd = .ok v H' → H' = H ∧ Quiet P E w o a v) → DidOk P w0 E H w o a (onlyOk dd) := fun {dd} h => onlyOk_did fun v H' hd => by
    obtain ⟨rfl, hq⟩ := h v H' hd
    exact hq.acted hR
  have pure : (∀ cs b, o.op ≠ .select cs b) → DidOk P w0 E H w o a (onlyOk (execPure P s L H o)) := fun hs => q fun v H' h => execPure_ok hS hs h
  generalize hop : o.op = op at *
  cases op with
  | move x => exact q fun v H' h => xMove_ok hS (.inl hop) h
  | assign x => exact q fun v H' h => xMove_ok hS (.inr hop) h
  | pick c x y => exact q fun v H' h => xPick_ok hS hop h
  | alloc t => exact onlyOk_did fun v H' h => xAlloc_ok K hR hop h
  | box t x => exact onlyOk_did fun v H' h => xBox_ok hR hS hop h
  | build t ps => exact q fun v H' h => xBuild_ok K hS hop h
  | buildSlice t n ps => exact onlyOk_did fun v H' h => xBuildSlice_ok K hR hS hop h
  | load t x => exact q fun v H' h => xLoad_ok K hR hS hop h
  | store t x y => exact onlyOk_did fun v H' h => xStore_ok K hR hS hop h
  | nilCheck x => exact q fun v H' h => xNilCheck_ok hS hop h
  | binOp b t x y yt => exact q fun v H' h => xBin_ok K hS hop h
  | convert t u x => exact onlyOk_did fun v H' h => xConvert_acts K hR hS hop h
  | makeInterface t x => exact q fun v H' h => xMakeInterface_ok K hS hop h
  | makeFunc f x y => exact q fun v H' h => xMakeFunc_ok hS hop h
  | makeMap t r => exact onlyOk_did fun v H' h => xMakeMap_ok hR hop h
  | makeSlice t x y => exact onlyOk_did fun v H' h => xMakeSlice_ok K hR hS hop h
  | slice t x lo hi mx => exact q fun v H' h => xSlice_ok K hR hS hop h
  | fieldAddr t x f => exact q fun v H' h => xFieldAddr_ok K hS hop h
  | field t x f => exact q fun v H' h => xField_ok K hS hop h
  | indexAddr t x i => exact q fun v H' h => xIndexAddr_ok K hS hop h
  | index t x i => exact q fun v H' h => xIndex_ok K hS hop h
  | lookup t m k ok => exact q fun v H' h => xLookup_ok K hR hS hop h
  | mapUpdate t m k x => exact onlyOk_did fun v H' h => xMapUpdate_ok K hR hS (.inl hop) h
  | insert t m k x => exact onlyOk_did fun v H' h => xMapUpdate_ok K hR hS (.inr hop) h
  | extract x i => exact q fun v H' h => xExtract_ok hS hop h
  | typeAssert x t u ok => exact q fun v H' h => xTypeAssert_ok K hS hop h
  | call cl => exact xCall_ok K hR hS hop
  | defer cl => exact xDefer_ok K hS hop
  | panic x => exact xPanic_ok hS hop
  | select cs b => trivial
  | _ => exact pure (by simp)
end
end Go.Proofs.YthgjjogleklmcaaGreatDoor.Ev
