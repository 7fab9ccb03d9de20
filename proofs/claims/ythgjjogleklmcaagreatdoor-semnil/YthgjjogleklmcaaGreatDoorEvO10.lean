/- The reckoner: part EvO10. -/
import Derived.Test.YthgjjogleklmcaaGreatDoorEvO9
import Derived.Laws.IdiomStrings
import Derived.Laws.MakeOwn
namespace Go.Proofs.YthgjjogleklmcaaGreatDoor.Ev
open Go.RowKit
set_option linter.unusedVariables false
section
variable {P : Tb} {w0 : Base} {E : Env} {H H' : St} {w : World} {s : Lc} {L : Ls} {a : Act} {o : Oper} {v c d : Value}

theorem xMakeSlice_ok (K : TbOk P) (hR : Rep P.P w0 E H w) {t : TypeId} {x y : Operand} (hS : LocR E s L a) (hop : o.op = .makeSlice t x y) (h : xMakeSlice t x y P s L H o = .ok v H') : Acted P w0 E H' w o a v := by
  obtain ⟨e, h1, h⟩ := osel_did h (by simp)
  obtain ⟨z, h2, h⟩ := osel_did h (by simp)
  obtain ⟨n, h3, h⟩ := osel_did h (by simp)
  obtain ⟨m, h4, h⟩ := osel_did h (by simp)
  obtain ⟨h5, h⟩ := bsel_did h (by simp)
  obtain ⟨h6, h⟩ := bsel_did h (by simp)
  obtain ⟨rfl, rfl⟩ := ok_inj h
  obtain ⟨hu, he, hi⟩ := elemTy_ok K h1
  obtain ⟨k1, hx⟩ := asNat_ok hS h3
  obtain ⟨k2, hy⟩ := asNat_ok hS h4
  have hz := hi.zero h2
  have hzv := hi.zeroValue h2 (w := w)
  have e1 : (valueOf z e.2.agg).cells = z.toArray := by apply Array.ext'; rw [hi.zeroCells h2]
  have h5 : n ≤ m := Nat.le_of_ble_eq_true h5
  have h6 : m * (e.2.bytes + 1) ≤ 1000000 := Nat.le_of_ble_eq_true h6
  rw [Nat.mul_add, Nat.mul_one] at h6
  obtain ⟨h8, h9, h10⟩ := hR.cells e.1 (repL_plain (E := E) hz.1 m)
  refine ⟨_, _, _, _, h8, h9, .slice h10 (capLit (by omega)), .inl rfl, ?_⟩
  obtain ⟨j, g1, g2, g3, g4⟩ := hi.info
  obtain ⟨zv, g5, g6, _⟩ := g4 z h2
  have hrep := repL_eq z m
  rw [hz.2] at hrep
  have e2 : zv.cells = z.toArray := by apply Array.ext'; rw [g6]
  have hb : ((j.bytes : Int) * (m : Int)) ≤ 281474976710656 := by
    have : e.2.bytes * m ≤ 1000000 := by rw [Nat.mul_comm]; omega
    rw [g3]
    have h2 : ((e.2.bytes * m : Nat) : Int) ≤ 1000000 := by omega
    rw [Int.natCast_mul] at h2
    omega
  have hm : madeCells zv.cells (m * j.size) = (repL z m).toArray := by rw [← hrep, e2, g2]; rfl
  have hrun := run_make (P := P.P) (w := w) t e.1 j zv hu g1 g5 k1 k2 (n : Int) (m : Int) (by omega) (by omega) hb (by omega)
  simp only [Int.toNat_natCast] at hrun
  rw [hm] at hrun
  simp [execOp, hop, hx, hy, hrun]

theorem capSym {b B cp : Nat} (hB : E.bl b = some B) (hc : E.cp b = cp) : CapR E (Nat.mul BIG (Nat.succ b)) cp := by
  refine .inr ⟨b, B, 0, ?_, Nat.add_zero _, ?_, hB, ?_⟩
  · show 9223372036854775807 < BIG * (b + 1)
    unfold BIG; omega
  · unfold BIG; omega
  · rw [hc]; exact Nat.add_zero _

theorem s2b_ok (hR : Rep P.P w0 E H w) {src dst e : TypeId} (hs : P.P.underlying src = some .string) (hd : P.P.underlying dst = some (.slice e)) {i : TyI} (he : TyOk P.P e i) (hi : isU8 i.under = true) (h1 : i.size = 1) {x : Value} (hx : VR E x c)
    (h : s2b H e x = .ok v H') : ∃ E' w' c', E.le E' ∧ Rep P.P w0 E' H' w' ∧ VR E' v c' ∧ (convert src dst c).run P.P w = .ok c' w' := by
  cases x with
  | string z =>
    obtain ⟨rfl, rfl⟩ := ok_inj h
    obtain rfl := hx.plain rfl
    have hu := he.under
    rw [isU8_eq hi] at hu
    have hrun := run_bytes_of_string (P := P.P) w src dst e z hs hd hu
    have hcap := grownCap_ge w z.size 0 e
    have hlen : z.data.toList.length = z.size := Array.length_toList
    have hsz : (bytesRow z (grownCap w z.size 0 e)).size = grownCap w z.size 0 e := by
      have : z.data.size = z.size := rfl
      simp only [bytesRow, Array.size_append, Array.size_map, Array.size_replicate]; omega
    obtain ⟨j, g1, g2, _⟩ := he.typeInfo
    have hc1 : cellsOf P.P e = 1 := by simp [cellsOf, g1, g2, h1]
    obtain ⟨h8, h9, h10⟩ := hR.drew.row (elem := e) (vs := z.data.toList.map byteV) (C := bytesRow z (grownCap w z.size 0 e)) (fr := ((bytesRow z (grownCap w z.size 0 e)).size, (bytesRow z (grownCap w z.size 0 e)).size + 1)) (g := true) (st := true)
      (n := (z.data.toList.map byteV).length) (cp := grownCap w z.size 0 e) (dd := depthOf (z.data.toList.map byteV).length)
      (by rw [hsz, List.length_map]; omega) (Nat.le_refl _) (fun i u hu => by
        rw [List.getElem?_map] at hu
        obtain ⟨b, hb, rfl⟩ := Option.map_eq_some_iff.1 hu
        have hlt : i < z.data.size := by
          have := (List.getElem?_eq_some_iff.1 hb).1
          simpa using this
        refine ⟨_, bytesRow_at z _ i hlt, ?_⟩
        have : z.data[i] = b := by rw [Array.getElem?_toList, Array.getElem?_eq_getElem hlt] at hb; exact Option.some.inj hb
        rw [this]; exact .flat rfl) (fun h => by cases h) (fun _ => by rw [hsz, hc1, Nat.mul_one]) (fun i hi => by simp only []; omega) (fun h => by cases h)
    refine ⟨_, _, _, h8, h9, .slice h10 (capSym h10 Env.with_cp), ?_⟩
    rw [hlen]; exact hrun
  | _ => cases h

theorem xConvert_acts (K : TbOk P) (hR : Rep P.P w0 E H w) {src dst : TypeId} {x : Operand} (hS : LocR E s L a) (hop : o.op = .convert src dst x) (h : xConvert src dst x P s L H o = .ok v H') : Acted P w0 E H' w o a v := by
  rcases xConvert_ok (w := w) K hR hS hop h with ⟨rfl, hq⟩ | ⟨e, i, h1, h2, h3, h4, h5, u, h6, h7⟩
  · exact hq.acted hR
  · obtain ⟨E', w', c', g1, g2, g3, g4⟩ := s2b_ok hR h1 h2 (K.ty _ _ h3) h4 h5 (hS x u h6) h7
    exact ⟨E', w', c', _, g1, g2, g3, .inl rfl, by simp [execOp, hop, g4]⟩

/-! ### maps -/
theorem keyKind_eq {dd : TypeDesc} (h : keyKind dd = true) : (∃ k, dd = .int k) ∨ dd = .string := by
  cases dd with
  | int k => exact .inl ⟨k, rfl⟩
  | string => exact .inr rfl
  | _ => cases h
theorem checkKey_ok {Q : Program} {t : TypeId} {dd : TypeDesc} (hu : Q.underlying t = some dd) (hk : keyKind dd = true) (em : Bool) (x : Value) : (Instr.checkKey em 10000 t x).run Q w = .ok () w := by
  have key : ∀ n : Nat, (Instr.checkKey em (n + 1) t x).run Q w = .ok () w := fun n => by
    rcases keyKind_eq hk with ⟨k, rfl⟩ | rfl <;> simp [Instr.checkKey, run_underlying hu]
  exact key 9999
theorem sameNow_ok {dd : TypeDesc} (hk : keyKind dd = true) {x y c d : Value} (hx : VR E x c) (hy : VR E y d) {r : Bool} (h : keyEq x y = some r) (hd : (∃ k, dd = .int k) → ∃ k n, x = .int k n) (hs : dd = .string → ∃ z, x = .string z) :
    Instr.sameNow dd c d = some r := by
  unfold keyEq at h
  split at h
  · obtain rfl := hx.plain rfl; obtain rfl := hy.plain rfl
    obtain ⟨h1, h⟩ := bsel_opt h
    obtain rfl := Option.some.inj h
    obtain rfl := kindEq_eq h1
    rcases keyKind_eq hk with ⟨k, rfl⟩ | rfl
    · simp [Instr.sameNow, intEq_eq]
    · obtain ⟨z, hz⟩ := hs rfl; cases hz
  · obtain rfl := hx.plain rfl; obtain rfl := hy.plain rfl
    obtain rfl := Option.some.inj h
    rcases keyKind_eq hk with ⟨k, rfl⟩ | rfl
    · obtain ⟨k, n, hz⟩ := hd ⟨k, rfl⟩; cases hz
    · rename_i x y
      simp only [Instr.sameNow, bytesEq_eq]
      congr 1
      rw [Bool.eq_iff_iff]
      show (x.data == y.data) = true ↔ _
      simp only [beq_iff_eq]
      exact ⟨fun h => congrArg _ h, fun h => Array.ext' h⟩
  · cases h
theorem findK_ok {dd : TypeDesc} (hk : keyKind dd = true) {x c : Value} (hx : VR E x c) (hd : (∃ k, dd = .int k) → ∃ k n, x = .int k n) (hs : dd = .string → ∃ z, x = .string z) :
    ∀ {es cs : List MapEntry} {r : Option Value} (n : Nat), EntsR E es cs → findK x es = some r →
    (r = none ∧ Instr.findNow dd c cs n = some none) ∨ ∃ u c' m, r = some u ∧ VR E u c' ∧ Instr.findNow dd c cs n = some (some (n + m, c')) ∧ (∃ e, es[m]? = some e ∧ keyEq x e.key = some true) ∧ (∀ i e, i < m → es[i]? = some e → keyEq x e.key = some false)
  | _, _, r, n, .nil, h => by cases h; exact .inl ⟨rfl, rfl⟩
  | _, _, r, n, .cons (e := e) (c := ce) h h', hf => by
    obtain ⟨b, h1, hf⟩ := osel_opt hf
    have h2 := sameNow_ok hk hx h.1 h1 hd hs
    cases b with
    | true =>
      cases hf
      exact .inr ⟨e.val, ce.val, 0, rfl, h.2.1, by simp [Instr.findNow, h2], ⟨e, rfl, h1⟩, fun i e hi => by omega⟩
    | false =>
      rw [bsel_f] at hf
      rcases findK_ok hk hx hd hs (n + 1) h' hf with ⟨rfl, h3⟩ | ⟨u, c', m, rfl, h3, h4, ⟨e', h5, h6⟩, h7⟩
      · exact .inl ⟨rfl, by simp [Instr.findNow, h2, h3]⟩
      · refine .inr ⟨u, c', m + 1, rfl, h3, by simp [Instr.findNow, h2, h4]; omega, ⟨e', by simpa using h5, h6⟩, fun i e'' hi he => ?_⟩
        cases i with
        | zero => simp at he; subst he; exact h1
        | succ i => exact h7 i e'' (by omega) (by simpa using he)
end
end Go.Proofs.YthgjjogleklmcaaGreatDoor.Ev
