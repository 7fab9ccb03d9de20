/- The reckoner: part EvO11. -/
import Derived.Test.YthgjjogleklmcaaGreatDoorEvO10
namespace Go.Proofs.YthgjjogleklmcaaGreatDoor.Ev
open Go.RowKit
set_option linter.unusedVariables false
section
variable {P : Tb} {w0 : Base} {E : Env} {H H' : St} {w : World} {s : Lc} {L : Ls} {a : Act} {o : Oper} {v c d : Value}

theorem keyFits_ok {dd : TypeDesc} {x : Value} (h : keyFits dd x = true) : keyKind dd = true ∧ ((∃ k, dd = .int k) → ∃ k n, x = .int k n) ∧ (dd = .string → ∃ z, x = .string z) := by
  unfold keyFits at h
  split at h
  · exact ⟨rfl, fun _ => ⟨_, _, rfl⟩, fun h => nomatch h⟩
  · exact ⟨rfl, (fun h => by obtain ⟨k, h⟩ := h; cases h), fun _ => ⟨_, rfl⟩⟩
  · cases h
theorem mapOf_ok {dd : TypeDesc} {ke : TypeId × TypeId} (h : mapOf dd = some ke) : dd = .map ke.1 ke.2 := by
  cases dd with
  | map k e => cases h; rfl
  | _ => cases h
theorem findKey_ok {Q : Program} {t : TypeId} {dd : TypeDesc} (hu : Q.underlying t = some dd) {x : Value} {cs : List MapEntry} {r : Option (Nat × Value)} (h : Instr.findNow dd x cs 0 = some r) : (Instr.findKey t x cs).run Q w = .ok r w := by
  simp [Instr.findKey, run_underlying hu, h]

theorem xLookup_ok (K : TbOk P) (hR : Rep P.P w0 E H w) {t : TypeId} {m k : Operand} {ok : Bool} (hS : LocR E s L a) (hop : o.op = .lookup t m k ok) (h : xLookup t m k ok P s L H o = .ok v H') : H' = H ∧ Quiet P E w o a v := by
  obtain ⟨i, h1, h⟩ := osel_did h (by simp)
  obtain ⟨ke, h2, h⟩ := osel_did h (by simp)
  obtain ⟨ki, h3, h⟩ := osel_did h (by simp)
  obtain ⟨ei, h4, h⟩ := osel_did h (by simp)
  obtain ⟨z, h5, h⟩ := osel_did h (by simp)
  obtain ⟨mv, h6, h⟩ := osel_did h (by simp)
  obtain ⟨es, h7, h⟩ := osel_did h (by simp)
  obtain ⟨kv, h8, h⟩ := osel_did h (by simp)
  obtain ⟨h9, h⟩ := bsel_did h (by simp)
  obtain ⟨r, h10, h⟩ := osel_did h (by simp)
  obtain ⟨rfl, rfl⟩ := ok_inj h
  have hu := (K.ty t i h1).under
  rw [mapOf_ok h2] at hu
  have hku := (K.ty _ _ h3).under
  have hei := K.ty _ _ h4
  obtain ⟨g1, g2, g3⟩ := keyFits_ok h9
  have hkv := hS k kv h8
  have hzv := hei.zeroValue h5 (w := w)
  have hzVR : VR E (valueOf z ei.agg) (valueOf z ei.agg) := VR.zero (hei.zero h5).1 ei.agg
  obtain ⟨cs, hes, hrun⟩ : ∃ cs : List MapEntry, EntsR E es cs ∧ ((a.eval m = .map none ∧ cs = []) ∨ ∃ B clock, a.eval m = .map (some B) ∧ w.heap[B]? = some (.map ⟨cs⟩ clock)) := by
    have hm := hS m mv h6
    cases mv with
    | map p =>
      cases p with
      | none => cases h7; exact ⟨[], .nil, .inl ⟨hm.plain rfl, rfl⟩⟩
      | some b =>
        obtain ⟨bk, g4, g5⟩ := osel_opt h7
        obtain ⟨B, g6, g7⟩ := hm.map_inv
        obtain ⟨B', ob, hB', hob, hbl⟩ := hR.blk _ _ g4
        rw [g7] at hB'; cases hB'
        cases bk with
        | map es' clock =>
          cases g5
          obtain ⟨cs, rfl, g8⟩ := hbl
          exact ⟨cs, g8, .inr ⟨B, clock, g6, hob⟩⟩
        | _ => cases g5
    | _ => cases h7
  have hck := fun em => checkKey_ok (w := w) hku g1 em (a.eval k)
  rcases findK_ok g1 hkv g2 g3 0 hes h10 with ⟨rfl, g4⟩ | ⟨u, c', n, rfl, g4, g5, _⟩
  · have hf := findKey_ok (w := w) hku g4
    refine ⟨rfl, if ok then .tuple #[valueOf z ei.agg, .bool false] else valueOf z ei.agg, ?_, ?_⟩
    · cases ok
      · exact hzVR
      · exact .tuple (.cons hzVR (.cons (.flat rfl) .nil))
    · rcases hrun with ⟨g6, rfl⟩ | ⟨B, clock, g6, g7⟩
      · cases ok <;> simp [execOp, hop, Instr.lookup, run_underlying hu, g6, hck, hf, hzv]
      · cases ok <;> simp [execOp, hop, Instr.lookup, run_underlying hu, g6, hck, hf, hzv, getObj, Sem.run, g7]
  · have hf := findKey_ok (w := w) hku g5
    refine ⟨rfl, if ok then .tuple #[c', .bool true] else c', ?_, ?_⟩
    · cases ok
      · exact g4
      · exact .tuple (.cons g4 (.cons (.flat rfl) .nil))
    · rcases hrun with ⟨g6, rfl⟩ | ⟨B, clock, g6, g7⟩
      · cases ok <;> simp [execOp, hop, Instr.lookup, run_underlying hu, g6, hck, hf]
      · cases ok <;> simp [execOp, hop, Instr.lookup, run_underlying hu, g6, hck, hf, getObj, Sem.run, g7]

theorem EntsR.get {es cs : List MapEntry} (h : EntsR E es cs) : ∀ (n : Nat) (e : MapEntry), es[n]? = some e → ∃ c, cs[n]? = some c ∧ EntR E e c := by
  induction h with
  | nil => intro n e h; simp at h
  | cons h h' ih =>
    intro n e hn
    cases n with
    | zero => simp at hn; subst hn; exact ⟨_, rfl, h⟩
    | succ n => simpa using ih n e (by simpa using hn)
theorem EntsR.append {es cs : List MapEntry} {x y : MapEntry} (h : EntsR E es cs) (hxy : EntR E x y) : EntsR E (es ++ [x]) (cs ++ [y]) := by
  induction h with
  | nil => exact .cons hxy .nil
  | cons h h' ih => exact .cons h ih
theorem setK_ok {x y c d : Value} (hx : VR E x c) (hy : VR E y d) : ∀ {es cs : List MapEntry} {m : Nat} {e : MapEntry}, EntsR E es cs → es[m]? = some e → keyEq x e.key = some true → (∀ i e, i < m → es[i]? = some e → keyEq x e.key = some false) →
    EntsR E (setK x y es) (cs.modify m fun e => { e with key := c, val := d })
  | _, _, m, e, .nil, h, _, _ => by simp at h
  | _, _, 0, e, .cons (e := e0) (c := c0) h h', he, hk, _ => by
    simp at he; subst he
    simp only [setK, hk, osel_s, bsel_t, List.modify_zero_cons]
    exact .cons ⟨hx, hy, h.2.2⟩ h'
  | _, _, m + 1, e, .cons (e := e0) (c := c0) h h', he, hk, hlt => by
    have h0 := hlt 0 e0 (by omega) rfl
    simp only [setK, h0, osel_s, bsel_f, List.modify_succ_cons]
    exact .cons h (setK_ok hx hy h' (by simpa using he) hk fun i e hi hie => hlt (i + 1) e (by omega) (by simpa using hie))

theorem sameBits_key {x y c d : Value} (hx : VR E x c) (hy : VR E y d) (h : keyEq x y = some true) : Instr.sameBits 10000 d c = true := by
  unfold keyEq at h
  split at h
  · obtain rfl := hx.plain rfl; obtain rfl := hy.plain rfl
    obtain ⟨h1, hq⟩ := bsel_opt h
    obtain rfl := kindEq_eq h1
    have h2 := Option.some.inj hq
    rw [intEq_eq] at h2
    have : _ = _ := eq_of_beq h2
    subst this
    simp [Instr.sameBits]
  · obtain rfl := hx.plain rfl; obtain rfl := hy.plain rfl
    have h2 := Option.some.inj h
    rw [bytesEq_eq] at h2
    rename_i x y
    have : x = y := congrArg ByteArray.mk (Array.ext' (eq_of_beq h2))
    subst this
    simp only [Instr.sameBits]
    show (x.data == x.data) = true
    simp
  · cases h

theorem xMapUpdate_ok (K : TbOk P) (hR : Rep P.P w0 E H w) {t : TypeId} {m k x : Operand} (hS : LocR E s L a) (hop : o.op = .mapUpdate t m k x ∨ o.op = .insert t m k x) (h : xMapUpdate t m k x P s L H o = .ok v H') : Acted P w0 E H' w o a v := by
  obtain ⟨i, h1, h⟩ := osel_did h (by simp)
  obtain ⟨ke, h2, h⟩ := osel_did h (by simp)
  obtain ⟨ki, h3, h⟩ := osel_did h (by simp)
  obtain ⟨mv, h6, h⟩ := osel_did h (by simp)
  cases mv with
  | map p =>
    cases p with
    | none => cases h
    | some b =>
      obtain ⟨bk, g4, h⟩ := osel_did h (by simp)
      cases bk with
      | map es clock =>
        obtain ⟨kv, h7, h⟩ := osel_did h (by simp)
        obtain ⟨vv, h8, h⟩ := osel_did h (by simp)
        obtain ⟨h9, h⟩ := bsel_did h (by simp)
        obtain ⟨r, h10, h⟩ := osel_did h (by simp)
        have hu := (K.ty t i h1).under
        rw [mapOf_ok h2] at hu
        have hku := (K.ty _ _ h3).under
        obtain ⟨g1, g2, g3⟩ := keyFits_ok h9
        have hkv := hS k kv h7
        have hvv := hS x vv h8
        obtain ⟨B, g6, g7⟩ := (hS m _ h6).map_inv
        obtain ⟨B', ob, hB', hob, hbl⟩ := hR.blk _ _ g4
        rw [g7] at hB'; cases hB'
        obtain ⟨cs, rfl, g8⟩ := hbl
        have hck := checkKey_ok (w := w) hku g1 false (a.eval k)
        have only : ∀ ob' : Obj, Only B w { w with heap := w.heap.setIfInBounds B ob' } := fun ob' => ⟨rfl, rfl, rfl, by simp, fun j hj => by simp [Array.getElem?_setIfInBounds_ne (Ne.symm hj)]⟩
        have hlt : B < w.heap.size := (Array.getElem?_eq_some_iff.1 hob).1
        have at_ : ∀ ob' : Obj, ({ w with heap := w.heap.setIfInBounds B ob' } : World).heap[B]? = some ob' := fun ob' => by simp [hlt]
        rcases findK_ok g1 hkv g2 g3 0 g8 h10 with ⟨rfl, g9⟩ | ⟨u, c', n, rfl, g9, g10, ⟨e, g11, g12⟩, g13⟩
        · obtain ⟨rfl, rfl⟩ := ok_inj h
          have hf := findKey_ok (w := w) hku g9
          refine ⟨E, _, undef, .skip, .refl E, hR.set (k' := .map (es ++ [⟨kv, vv, clock⟩]) (Nat.succ clock)) g4 g7 rfl (only _) (at_ _) ⟨cs ++ [⟨a.eval k, a.eval x, clock⟩], rfl, g8.append ⟨hkv, hvv, rfl⟩⟩, .tuple .nil, .inr ⟨rfl, rfl⟩, ?_⟩
          rcases hop with hop | hop <;> simp [execOp, hop, g6, Instr.mapUpdate, run_underlying hu, getObj, setObj, Sem.run, hob, hck, hf]
        · obtain ⟨rfl, rfl⟩ := ok_inj h
          have hf := findKey_ok (w := w) hku g10
          rw [Nat.zero_add] at hf
          obtain ⟨ec, g14, g15⟩ : ∃ ec, cs[n]? = some ec ∧ EntR E e ec := g8.get n e g11
          have hsb := sameBits_key hkv g15.1 g12
          refine ⟨E, _, undef, .skip, .refl E, hR.set (k' := .map (setK kv vv es) clock) g4 g7 rfl (only _) (at_ _) ⟨cs.modify n fun e => { e with key := a.eval k, val := a.eval x }, rfl, setK_ok hkv hvv g8 g11 g12 g13⟩, .tuple .nil, .inr ⟨rfl, rfl⟩, ?_⟩
          rcases hop with hop | hop <;> simp [execOp, hop, g6, Instr.mapUpdate, run_underlying hu, getObj, setObj, Sem.run, hob, hck, hf, g14, Instr.keyThatStays, hsb]
      | _ => cases h
  | _ => cases h
end
end Go.Proofs.YthgjjogleklmcaaGreatDoor.Ev
