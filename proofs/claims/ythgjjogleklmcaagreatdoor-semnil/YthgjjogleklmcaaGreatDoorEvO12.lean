/- The reckoner: part EvO12. -/
import Derived.Test.YthgjjogleklmcaaGreatDoorEvO11
namespace Go.Proofs.YthgjjogleklmcaaGreatDoor.Ev
open Go.RowKit
set_option linter.unusedVariables false
section
variable {P : Tb} {w0 : Base} {E : Env} {H H' : St} {w : World} {s : Lc} {L : Ls} {a : Act} {o : Oper} {v c d : Value}

/-! ### parts of rows and texts -/
theorem boundOr_ok (hS : LocR E s L a) {dflt n : Nat} {x : Option Operand} (h : boundOr dflt s L x = some n) : (x = none ∧ n = dflt) ∨ ∃ y k, x = some y ∧ a.eval y = .int k (n : Int) := by
  cases x with
  | none => cases h; exact .inl ⟨rfl, rfl⟩
  | some y => obtain ⟨k, hk⟩ := asNat_ok hS h; exact .inr ⟨y, k, rfl, hk⟩
theorem bound_run {Q : Program} {k : IntKind} {n y : Nat} (code : BoundsCode) (h : n ≤ y) : (Instr.sliceBound (.int k (n : Int)) y code).run Q w = .ok n w := by
  have : (0 : Int) ≤ (n : Int) ∧ (n : Int) ≤ (y : Int) := by omega
  simp [Instr.sliceBound, asIntOf, h]
theorem bounds_ok {Q : Program} (hS : LocR E s L a) {lo hi mx : Option Operand} {l h m len cap' : Nat} (h1 : boundOr len s L hi = some h) (h2 : boundOr 0 s L lo = some l)
    (h3 : (mx = none ∧ m = cap') ∨ ∃ y k, mx = some y ∧ a.eval y = .int k (m : Int)) (h4 : l ≤ h) (h5 : h ≤ m) (h6 : m ≤ cap') (h7 : maxOk mx hi = true) (isS : Bool) :
    (Instr.sliceBounds isS len cap' (lo.map a.eval) (hi.map a.eval) (mx.map a.eval)).run Q w = .ok (l, h, m) w := by
  rcases boundOr_ok hS h1 with ⟨rfl, rfl⟩ | ⟨y1, k1, rfl, e1⟩ <;> rcases boundOr_ok hS h2 with ⟨rfl, rfl⟩ | ⟨y2, k2, rfl, e2⟩ <;> rcases h3 with ⟨rfl, rfl⟩ | ⟨y3, k3, rfl, e3⟩
  · simp [Instr.sliceBounds]
  · cases h7
  · simp [Instr.sliceBounds, e2, bound_run _ h4]
  · cases h7
  · simp [Instr.sliceBounds, e1, bound_run _ h5]
  · simp [Instr.sliceBounds, e1, e3, bound_run _ h5, bound_run _ h6]
  · simp [Instr.sliceBounds, e1, e2, bound_run _ h5, bound_run _ h4]
  · simp [Instr.sliceBounds, e1, e2, e3, bound_run _ h5, bound_run _ h4, bound_run _ h6]

theorem extract_eq (b : ByteArray) (l h : Nat) : b.extract l h = ⟨((b.data.toList.drop l).take (h - l)).toArray⟩ := by
  have : (b.extract l h).data = b.data.extract l h := by simp
  have e2 : b.data.extract l h = ((b.data.toList.drop l).take (h - l)).toArray := by apply Array.ext'; simp [List.extract]
  rw [← e2, ← this]

theorem VR.sliceAdd {b : Addr} {B n q c1 c2 : Nat} (hB : E.bl b.block = some B) (hc : CapR E c1 c2) : VR E (.slice (some (addA b q)) n c1) (.slice (some ((⟨B, b.off, b.spot⟩ : Addr).add q)) n c2) := by
  rw [addA_eq]
  unfold Addr.add
  split <;> exact .slice hB hc
theorem sliceTo_VR {b : Option Addr} {l h m size n k : Nat} (hx : VR E (.slice b n k) c) (hk : k ≤ 9223372036854775807) (hm : m ≤ k) (h0 : sliceTo H b l h m size = .ok v H') :
    H' = H ∧ ∃ b', (c = .slice b' n k) ∧ VR E v (.slice (if m = l then b' else b'.map (·.add (l * size))) (h - l) (m - l)) := by
  obtain ⟨rfl, rfl⟩ := ok_inj h0
  have cap : CapR E (Nat.sub m l) (m - l) := capLit (by show m - l ≤ _; omega)
  cases b with
  | none =>
    obtain rfl := hx.plain rfl
    refine ⟨rfl, none, rfl, ?_⟩
    cases hb : Nat.beq m l with
    | true => rw [bsel_t]; split <;> exact .flat rfl
    | false => rw [bsel_f]; show VR E (.slice none _ _) _; split <;> exact .flat rfl
  | some b =>
    obtain ⟨B, k2, rfl, hB, hc⟩ := hx.slice_inv
    have : k2 = k := by
      rcases hc with ⟨_, h⟩ | ⟨_, _, _, h, _⟩
      · exact h
      · omega
    subst this
    refine ⟨rfl, _, rfl, ?_⟩
    cases hb : Nat.beq m l with
    | true =>
      have : m = l := Nat.eq_of_beq_eq_true hb
      rw [bsel_t, if_pos this]; exact .slice hB cap
    | false =>
      have : ¬ m = l := fun e => by subst e; rw [Nat.beq_refl] at hb; cases hb
      rw [bsel_f, if_neg this]
      exact VR.sliceAdd hB cap

theorem strSlice_ok {t : TypeId} (hu : P.P.underlying t = some .string) {lo hi : Option Operand} (hS : LocR E s L a) {x : Value} (hx : VR E x c) (h : strSlice s L H lo hi x = .ok v H') :
    H' = H ∧ plain v = true ∧ (Instr.sliceAt t c (lo.map a.eval) (hi.map a.eval) none).run P.P w = .ok v w := by
  cases x with
  | string b =>
    obtain ⟨n, h1, h⟩ := osel_did h (by simp)
    obtain ⟨l, h2, h⟩ := osel_did h (by simp)
    obtain ⟨h3, h⟩ := bsel_did h (by simp)
    obtain ⟨h4, h⟩ := bsel_did h (by simp)
    obtain ⟨rfl, rfl⟩ := ok_inj h
    obtain rfl := hx.plain rfl
    have hb := bounds_ok (w := w) (Q := P.P) hS h1 h2 (mx := none) (.inl ⟨rfl, rfl⟩) (Nat.le_of_ble_eq_true h3) (Nat.le_of_ble_eq_true h4) (Nat.le_refl _) (by cases hi <;> rfl) false
    have hsz : b.data.toList.length = b.size := Array.length_toList
    rw [hsz] at hb
    refine ⟨rfl, rfl, ?_⟩
    simp [Instr.sliceAt, Instr.slice, run_underlying hu]
    rw [show (none : Option Value) = Option.map a.eval none from rfl, hb]
    simp [extract_eq]
  | _ => cases h

/-- there is room for so many -/
theorem gFits_ok (hR : Rep P.P w0 E H w) {e : TypeId} {i : TyI} (hi : TyOk P.P e i) {b : Addr} {B k k' h : Nat} {bk : Blk} (hB : E.bl b.block = some B) (hc : CapR E k k') (hb : H.tr.get b.block = some bk) (hk : ¬ k ≤ 9223372036854775807)
    (h0 : gFits b e k h i.size bk = true) : h ≤ k' ∧ ∀ l, l ≤ h → l ≤ 1000000000 → CapR E (Nat.sub k l) (k' - l) := by
  obtain ⟨B', ob, hB', hob, hbl⟩ := hR.blk _ _ hb
  rw [hB] at hB'; cases hB'
  cases bk with
  | cells e' m dd ct g fz st ro =>
    obtain ⟨C, fr, rfl, hrow⟩ := hbl
    obtain ⟨h1, h0⟩ := bsel_and h0
    obtain ⟨h2, h0⟩ := bsel_and h0
    obtain ⟨h3, h0⟩ := bsel_and h0
    obtain ⟨h4, h0⟩ := bsel_and h0
    obtain ⟨h5, h0⟩ := bsel_and h0
    obtain ⟨h6, h8⟩ := bsel_and h0
    have h2 : e = e' := Nat.eq_of_beq_eq_true h2
    subst h2
    have h3 : k ≤ BIG * (b.block + 1) := Nat.le_of_ble_eq_true h3
    have h4 : BIG * (b.block + 1) - k ≤ 1000000000 := Nat.le_of_ble_eq_true h4
    have h5 : (BIG * (b.block + 1) - k) * i.size = b.off := Nat.eq_of_beq_eq_true h5
    have h6 : b.off + h * i.size ≤ m := Nat.le_of_ble_eq_true h6
    have h8 : 1 ≤ i.size := Nat.le_of_ble_eq_true h8
    have hg := hrow.grown h1
    have hle := hrow.le
    obtain ⟨j, g1, g2, _⟩ := hi.typeInfo
    have hcs : cellsOf P.P e = i.size := by simp [cellsOf, g1, g2]
    rw [hcs] at hg
    obtain ⟨q, B2, jj, q0, q1, q2, q3, q4⟩ := hc.resolve_left (fun h => hk h.1)
    have hq : q = b.block := by unfold BIG at *; omega
    subst hq
    have hjj : BIG * (b.block + 1) - k = jj := by omega
    rw [hjj] at h4 h5
    have hfit : jj + h ≤ E.cp b.block := by
      have e1 : (jj + h) * i.size ≤ E.cp b.block * i.size := by rw [Nat.add_mul, h5, ← hg]; omega
      exact Nat.le_of_mul_le_mul_right e1 h8
    refine ⟨by omega, fun l hl hl9 => .inr ⟨b.block, B2, jj + l, ?_, ?_, ?_, q3, ?_⟩⟩
    · show 9223372036854775807 < k - l; unfold BIG at *; omega
    · show k - l + (jj + l) = BIG * (b.block + 1); unfold BIG at *; omega
    · unfold BIG at *; omega
    · omega
  | _ => cases h0
theorem sliceG_ok (K : TbOk P) (hR : Rep P.P w0 E H w) {e : TypeId} {i : TyI} (hi : TyOk P.P e i) {b : Addr} {n k l h : Nat} {bk : Blk} (hx : VR E (.slice (some b) n k) c) (hb : H.tr.get b.block = some bk) (hsp : b.spot = none) (hk : ¬ k ≤ 9223372036854775807)
    (h0 : sliceG H b e k l h i.size bk = .ok v H') (hlh : l ≤ h) :
    H' = H ∧ ∃ B k', c = .slice (some ⟨B, b.off, none⟩) n k' ∧ h ≤ k' ∧ VR E v (.slice (if k' = l then some ⟨B, b.off, none⟩ else some ((⟨B, b.off, none⟩ : Addr).add (l * i.size))) (h - l) (k' - l)) := by
  obtain ⟨B, k', rfl, hB, hc⟩ := hx.slice_inv
  obtain ⟨h1, h0⟩ := bsel_did h0 (by simp)
  obtain ⟨h7, h0⟩ := bsel_did h0 (by simp)
  obtain ⟨h8, h0⟩ := bsel_did h0 (by simp)
  obtain ⟨rfl, rfl⟩ := ok_inj h0
  obtain ⟨hk', hcap⟩ := gFits_ok hR hi hB hc hb hk h1
  have hcap := hcap l hlh (Nat.le_of_ble_eq_true h8)
  rw [← hsp]
  refine ⟨rfl, B, k', rfl, hk', ?_⟩
  by_cases hkl : k' = l
  · rw [if_pos hkl]
    have hl0 : l = 0 := by
      cases hb0 : Nat.beq l 0 with
      | true => exact Nat.eq_of_beq_eq_true hb0
      | false =>
        rw [hb0, bsel_f] at h7
        have : l < h := Nat.le_of_ble_eq_true h7
        omega
    subst hl0
    have := VR.sliceAdd (n := Nat.sub h 0) (q := 0) hB hcap
    rw [show Nat.mul 0 i.size = 0 from Nat.zero_mul _]
    exact this
  · rw [if_neg hkl]
    exact VR.sliceAdd hB hcap

theorem sliceV_ok (K : TbOk P) (hR : Rep P.P w0 E H w) {t e : TypeId} {i : TyI} (hi : TyOk P.P e i) (hu : P.P.underlying t = some (.slice e)) {lo hi' mx : Option Operand} (hS : LocR E s L a) {x : Value} (hx : VR E x c)
    (h : sliceV e s L H i.size lo hi' mx x = .ok v H') : H' = H ∧ ∃ c', VR E v c' ∧ (Instr.sliceAt t c (lo.map a.eval) (hi'.map a.eval) (mx.map a.eval)).run P.P w = .ok c' w := by
  cases x with
  | slice p len cap =>
    obtain ⟨hh, h1, h⟩ := osel_did h (by simp)
    obtain ⟨l, h2, h⟩ := osel_did h (by simp)
    obtain ⟨m, h3, h⟩ := osel_did h (by simp)
    obtain ⟨h4, h⟩ := bsel_did h (by simp)
    obtain ⟨h5, h⟩ := bsel_did h (by simp)
    have h4 : l ≤ hh := Nat.le_of_ble_eq_true h4
    cases hc : Nat.ble cap 9223372036854775807 with
    | true =>
      rw [hc, bsel_t] at h
      obtain ⟨h6, h⟩ := bsel_did h (by simp)
      obtain ⟨h7, h⟩ := bsel_did h (by simp)
      have h7 : m ≤ cap := Nat.le_of_ble_eq_true h7
      obtain ⟨rfl, b', rfl, h8⟩ := sliceTo_VR hx (Nat.le_of_ble_eq_true hc) h7 h
      have h3' : (mx = none ∧ m = cap) ∨ ∃ y k, mx = some y ∧ a.eval y = .int k (m : Int) := boundOr_ok hS h3
      have hb := bounds_ok (w := w) (Q := P.P) hS h1 h2 h3' h4 (Nat.le_of_ble_eq_true h6) h7 h5 true
      refine ⟨rfl, _, h8, ?_⟩
      simp [Instr.sliceAt, Instr.slice, run_underlying hu, hb, hi.sizeOf w]
    | false =>
      rw [hc, bsel_f] at h
      obtain ⟨b, rfl, h⟩ := osel_did h (by simp)
      cases mx with
      | some y => cases h
      | none =>
        obtain ⟨h6, h⟩ := bsel_did h (by simp)
        obtain ⟨bk, h7, h⟩ := osel_did h (by simp)
        have hk : ¬ cap ≤ 9223372036854775807 := fun hle => by rw [Nat.ble_eq_true_of_le hle] at hc; cases hc
        obtain ⟨rfl, B, k', rfl, h8, h9⟩ := sliceG_ok K hR hi hx h7 (noSpot_iff h6) hk h h4
        have hb := bounds_ok (w := w) (Q := P.P) hS h1 h2 (mx := none) (cap' := k') (.inl ⟨rfl, rfl⟩) h4 h8 (Nat.le_refl _) h5 true
        refine ⟨rfl, _, h9, ?_⟩
        simp only [Option.map_none] at hb ⊢
        simp [Instr.sliceAt, Instr.slice, run_underlying hu, hb, hi.sizeOf w]
  | _ => cases h

theorem sliceA_ok {t e : TypeId} {i : TyI} {n : Nat} (hi : TyOk P.P e i) (hu : P.P.underlying t = some (.array n e)) {lo hi' mx : Option Operand} (hS : LocR E s L a) {x : Value} (hx : VR E x c)
    (h : sliceA s L H n i.size lo hi' mx x = .ok v H') : H' = H ∧ ∃ c', VR E v c' ∧ (Instr.sliceAt t c (lo.map a.eval) (hi'.map a.eval) (mx.map a.eval)).run P.P w = .ok c' w := by
  cases x with
  | pointer p =>
    cases p with
    | none => cases h
    | some b =>
      obtain ⟨hh, h1, h⟩ := osel_did h (by simp)
      obtain ⟨l, h2, h⟩ := osel_did h (by simp)
      obtain ⟨m, h3, h⟩ := osel_did h (by simp)
      obtain ⟨h4, h⟩ := bsel_did h (by simp)
      obtain ⟨h5, h⟩ := bsel_did h (by simp)
      obtain ⟨h6, h⟩ := bsel_did h (by simp)
      obtain ⟨h7, h⟩ := bsel_did h (by simp)
      obtain ⟨h8, h⟩ := bsel_did h (by simp)
      have h8 : m ≤ n := Nat.le_of_ble_eq_true h8
      have h6 : n ≤ 9223372036854775807 := Nat.le_of_ble_eq_true h6
      obtain ⟨B, hB, rfl⟩ := hx.pointer_inv
      obtain ⟨rfl, b', h9, h10⟩ := sliceTo_VR (k := n) (n := 0) (c := .slice (some ⟨B, b.off, b.spot⟩) 0 n) (.slice hB (capLit h6)) h6 h8 h
      cases h9
      have h3' : (mx = none ∧ m = n) ∨ ∃ y k, mx = some y ∧ a.eval y = .int k (m : Int) := boundOr_ok hS h3
      have hb := bounds_ok (w := w) (Q := P.P) hS h1 h2 h3' (Nat.le_of_ble_eq_true h4) (Nat.le_of_ble_eq_true h7) h8 h5 false
      refine ⟨rfl, _, h10, ?_⟩
      simp [Instr.sliceAt, Instr.sureAddr, run_underlying hu, hb, hi.sizeOf w]
      split <;> rfl
  | _ => cases h

theorem xSlice_ok (K : TbOk P) (hR : Rep P.P w0 E H w) {t : TypeId} {x : Operand} {lo hi mx : Option Operand} (hS : LocR E s L a) (hop : o.op = .slice t x lo hi mx) (h : xSlice t x lo hi mx P s L H o = .ok v H') : H' = H ∧ Quiet P E w o a v := by
  obtain ⟨i, h1, h⟩ := osel_did h (by simp)
  obtain ⟨u, h2, h⟩ := osel_did h (by simp)
  have hu := (K.ty t i h1).under
  have hx := hS x u h2
  cases hd : i.under with
  | slice e =>
    rw [hd] at h hu
    obtain ⟨j, h3, h⟩ := osel_did h (by simp)
    obtain ⟨rfl, c', h4, h5⟩ := sliceV_ok (w := w) K hR (K.ty e j h3) hu hS hx h
    exact ⟨rfl, c', h4, by simp [execOp, hop, h5]⟩
  | string =>
    rw [hd] at h hu
    cases mx with
    | some y => cases h
    | none =>
      obtain ⟨rfl, h4, h5⟩ := strSlice_ok (w := w) hu hS hx h
      exact ⟨rfl, v, VR.of_plain E v h4, by simp [execOp, hop, h5]⟩
  | array n e =>
    rw [hd] at h hu
    obtain ⟨j, h3, h⟩ := osel_did h (by simp)
    obtain ⟨rfl, c', h4, h5⟩ := sliceA_ok (w := w) (K.ty e j h3) hu hS hx h
    exact ⟨rfl, c', h4, by simp [execOp, hop, h5]⟩
  | _ => rw [hd] at h; cases h
end
end Go.Proofs.YthgjjogleklmcaaGreatDoor.Ev
