/- The reckoner: part EvD11. -/
import Derived.Test.YthgjjogleklmcaaGreatDoorEvD8
namespace Go.Proofs.YthgjjogleklmcaaGreatDoor.Ev
open Go.RowKit
set_option linter.unusedVariables false

/-! ### a reading of the numbers, cut off at one -/
def Env.cut (E : Env) (n : Nat) : Env := ⟨fun b => if b < n then E.bl b else none, E.cp, E.hole, E.one⟩
theorem Env.cut_lt {E : Env} {n b : Nat} (h : b < n) : (E.cut n).bl b = E.bl b := if_pos h
theorem Env.cut_ge {E : Env} {n b : Nat} (h : n ≤ b) : (E.cut n).bl b = none := if_neg (Nat.not_lt.2 h)
theorem Env.cut_some {E : Env} {n b B : Nat} (h : (E.cut n).bl b = some B) : b < n ∧ E.bl b = some B := by
  rcases Nat.lt_or_ge b n with h1 | h1
  · rw [Env.cut_lt h1] at h; exact ⟨h1, h⟩
  · rw [Env.cut_ge h1] at h; cases h
theorem Env.cut_le {E : Env} {n : Nat} : (E.cut n).le E := ⟨fun b B h => (Env.cut_some h).2, fun _ _ _ => rfl, rfl⟩
theorem Env.cut_mono {E : Env} {n m : Nat} (h : n ≤ m) : (E.cut n).le (E.cut m) :=
  ⟨fun b B hb => by obtain ⟨h1, h2⟩ := Env.cut_some hb; rw [Env.cut_lt (by omega)]; exact h2, fun _ _ _ => rfl, rfl⟩
theorem Env.cut_up {E E' : Env} (h : E.le E') {n : Nat} : (E.cut n).le (E'.cut n) :=
  ⟨fun b B hb => by obtain ⟨h1, h2⟩ := Env.cut_some hb; rw [Env.cut_lt h1]; exact h.bl _ _ h2, fun b B hb => h.cp b B (Env.cut_some hb).2, h.hole⟩
theorem CapR.cut {E : Env} {n c c' : Nat} (h : CapR E c c') (hb : bsel (Nat.ble c 9223372036854775807) true (Nat.ble c (Nat.mul 18446744073709551616 n)) = true) : CapR (E.cut n) c c' := by
  rcases h with h | ⟨b, B, j, h0, h1, h2, h3, h4⟩
  · exact .inl h
  · refine .inr ⟨b, B, j, h0, h1, h2, ?_, h4⟩
    have hf : Nat.ble c 9223372036854775807 = false := by
      cases hx : Nat.ble c 9223372036854775807 with
      | false => rfl
      | true => have := Nat.le_of_ble_eq_true hx; omega
    rw [hf, bsel_f] at hb
    have h5 : c ≤ 18446744073709551616 * n := Nat.le_of_ble_eq_true hb
    rw [Env.cut_lt]
    · exact h3
    · unfold BIG at h1 h2
      rcases Nat.lt_or_ge b n with h6 | h6
      · exact h6
      · exfalso
        omega
mutual
theorem VR.cut {E : Env} {n : Nat} {v c : Value} : VR E v c → bnd n v = true → VR (E.cut n) v c
  | .flat h, _ => .flat h
  | .ptr h, hb => .ptr (by rw [Env.cut_lt (Nat.le_of_ble_eq_true (by simpa [bnd] using hb))]; exact h)
  | .slice h hc, hb => by
    obtain ⟨h1, h2⟩ := bsel_and (by simpa only [bnd] using hb)
    exact .slice (by rw [Env.cut_lt (Nat.le_of_ble_eq_true h1)]; exact h) (hc.cut h2)
  | .map h, hb => .map (by rw [Env.cut_lt (Nat.le_of_ble_eq_true (by simpa [bnd] using hb))]; exact h)
  | .hole, _ => VR.hole (E := E.cut n)
  | .iface h, hb => .iface (VR.cut h (by simpa only [bnd] using hb))
  | .agg h, hb => .agg (VRL.cut h (by simpa only [bnd] using hb))
  | .tuple h, hb => .tuple (VRL.cut h (by simpa only [bnd] using hb))
  | .func h h', hb => by
    obtain ⟨h1, h2⟩ := bsel_and (by simpa only [bnd] using hb)
    exact .func (VRL.cut h h1) (VRL.cut h' h2)
theorem VRL.cut {E : Env} {n : Nat} {vs cs : List Value} : VRL E vs cs → bndL n vs = true → VRL (E.cut n) vs cs
  | .nil, _ => .nil
  | .cons h h', hb => by
    obtain ⟨h1, h2⟩ := bsel_and (by simpa only [bndL] using hb)
    exact .cons (VR.cut h h1) (VRL.cut h' h2)
end
/-- a reading below a number, another one from there on -/
def Env.join (E' E : Env) (n : Nat) : Env := ⟨fun b => if b < n then E'.bl b else E.bl b, fun b => if b < n then E'.cp b else E.cp b, E'.hole, E'.one⟩
theorem Env.join_lt {E' E : Env} {n b : Nat} (h : b < n) : (Env.join E' E n).bl b = E'.bl b := if_pos h
theorem Env.join_ge {E' E : Env} {n b : Nat} (h : n ≤ b) : (Env.join E' E n).bl b = E.bl b := if_neg (Nat.not_lt.2 h)
theorem Env.le_join {E' E : Env} {n : Nat} (hf : ∀ b, n ≤ b → E'.bl b = none) : E'.le ((Env.join E' E n).cut n) :=
  ⟨fun b B h => by
    have h1 : b < n := by
      rcases Nat.lt_or_ge b n with q | q
      · exact q
      · rw [hf b q] at h; cases h
    rw [Env.cut_lt h1, Env.join_lt h1]; exact h, fun b B h => by
    have h1 : b < n := by
      rcases Nat.lt_or_ge b n with q | q
      · exact q
      · rw [hf b q] at h; cases h
    show (if b < n then E'.cp b else E.cp b) = _
    rw [if_pos h1], rfl⟩
theorem Env.join_of {E' E : Env} {m n : Nat} (h : (E.cut m).le E') (hm : m ≤ n) (hno : ∀ b, m ≤ b → b < n → E.bl b = none) : E.le (Env.join E' E n) :=
  ⟨fun b B hb => by
    rcases Nat.lt_or_ge b n with q | q
    · rw [Env.join_lt q]
      refine h.bl b B ?_
      rcases Nat.lt_or_ge b m with r | r
      · rw [Env.cut_lt r]; exact hb
      · rw [hno b r q] at hb; cases hb
    · rw [Env.join_ge q]; exact hb, fun b B hb => by
    show (if b < n then E'.cp b else E.cp b) = _
    by_cases q : b < n
    · rw [if_pos q]
      rcases Nat.lt_or_ge b m with r | r
      · exact h.cp b B (by rw [Env.cut_lt r]; exact hb)
      · rw [hno b r q] at hb; cases hb
    · rw [if_neg q], h.hole⟩

section
variable {P : Program} {w0 : Base} {E E' : Env} {H : St} {w w' : World}
/-- more numbers -/
theorem Rep.up (h : Rep P w0 E H w) (hE : E.le E') (n : Nat) (hf : ∀ b, n ≤ b → E'.bl b = none) : Rep P w0 E' ⟨n, H.tr⟩ w := by
  have eq : ∀ {b k B}, H.tr.get b = some k → E'.bl b = some B → E.bl b = some B := fun {b k B} hk hB => by
    obtain ⟨B0, o, h1, _⟩ := h.blk b k hk
    have := hE.bl _ _ h1
    rw [this] at hB
    rw [h1, hB]
  exact ⟨h.stays, fun b k hk => let ⟨B, o, h1, h2, h3⟩ := h.blk b k hk; ⟨B, o, hE.bl _ _ h1, h2, h3.mono hE h1⟩, fun b b' k k' B hk hk' hB hB' => h.inj b b' k k' B hk hk' (eq hk hB) (eq hk' hB'), fun b k B hk hB => h.own b k B hk (eq hk hB), hf, fun b k B hk hB => h.far b k B hk (eq hk hB)⟩
theorem Rep.lt (h : Rep P w0 E H w) {b : Nat} {k : Blk} (hk : H.tr.get b = some k) : b < H.next := by
  obtain ⟨B, o, h1, _⟩ := h.blk b k hk
  rcases Nat.lt_or_ge b H.next with q | q
  · exact q
  · rw [h.fresh b q] at h1; cases h1

end

/-! ### what only makes a block of noughts -/
theorem plain_mem : ∀ {l : List Value}, plainL l = true → ∀ v ∈ l, plain v = true
  | [], _, v, h => by cases h
  | x :: r, h, v, hv => by
    obtain ⟨h1, h2⟩ := bsel_and (by simpa only [plainL] using h)
    rcases List.mem_cons.1 hv with rfl | hv
    · exact h1
    · exact plain_mem h2 v hv
theorem plain_all : ∀ {l : List Value}, (∀ v ∈ l, plain v = true) → plainL l = true
  | [], _ => by simp [plainL]
  | x :: r, h => by
    have h1 := h x (by simp)
    have h2 := plain_all fun v hv => h v (List.mem_cons_of_mem _ hv)
    simp only [plainL, h1, h2, bsel_t]
theorem plain_rep {z : List Value} (h : plainL z = true) : ∀ n, plainL (repL z n) = true
  | 0 => by simp [repL, plainL]
  | n + 1 => plain_all fun v hv => by
    rcases List.mem_append.1 (show v ∈ z ++ repL z n from hv) with q | q
    · exact plain_mem h v q
    · exact plain_mem (plain_rep h n) v q
theorem blk_any {P : Program} {E : Env} {b : Nat} {e : TypeId} {zs : List Value} {o : Obj} (hz : plainL zs = true) (h : BlkR P E b (mkCells e zs zs.length (depthOf zs.length) false false) o) : ∀ (E2 : Env) (b2 : Nat), BlkR P E2 b2 (mkCells e zs zs.length (depthOf zs.length) false false) o := fun E2 b2 => by
  obtain ⟨C, fr, rfl, hr⟩ := h
  refine ⟨C, fr, rfl, hr.le, hr.exact, (fun q => by cases q), hr.bound, fun i v hv => ?_, hr.free, hr.mark⟩
  obtain ⟨c, h1, h2⟩ := hr.cells i v hv
  have hp : plain v = true := plain_mem hz v (List.mem_of_getElem? (tree_get hv))
  obtain rfl := h2.plain hp
  exact ⟨c, h1, VR.of_plain E2 c hp⟩
theorem float_inv {P : Tb} {s : Lc} {L : Ls} {o : Oper} {v : Value} {H H1 : St} (hf : floatO P o = true) (hx : execT o.op P s L H o = .ok v H1) :
    ∃ e zs, plainL zs = true ∧ H1 = newCells H e zs false false ∧ ∃ V : Nat → Value, v = V H.next ∧ (∀ H', execT o.op P s L H' o = .ok (V H'.next) (newCells H' e zs false false)) ∧
      ((∀ n, V n = ptrTo n) ∨ ∃ l m, m ≤ 9223372036854775807 ∧ ∀ n, V n = .slice (some ⟨n, 0, none⟩) l m) := by
  unfold floatO at hf
  split at hf
  · rename_i t hop
    rw [hop] at hx ⊢
    have hx := onlyOk_inv (show onlyOk (xAlloc t P s L H o) = _ from hx)
    unfold xAlloc at hx
    obtain ⟨i, h1, hx⟩ := osel_did hx (by simp)
    obtain ⟨z, h2, hx⟩ := osel_did hx (by simp)
    obtain ⟨rfl, rfl⟩ := ok_inj hx
    rw [h1, osel_s, h2, osel_s] at hf
    refine ⟨t, z, hf, rfl, ptrTo, rfl, fun H' => ?_, .inl fun _ => rfl⟩
    show onlyOk (xAlloc t P s L H' o) = _
    unfold xAlloc
    rw [h1, osel_s, h2, osel_s]
    rfl
  · rename_i t l c hop
    rw [hop] at hx ⊢
    have hx := onlyOk_inv (show onlyOk (xMakeSlice t l c P s L H o) = _ from hx)
    unfold xMakeSlice at hx
    obtain ⟨e, h1, hx⟩ := osel_did hx (by simp)
    obtain ⟨z, h2, hx⟩ := osel_did hx (by simp)
    obtain ⟨n, h3, hx⟩ := osel_did hx (by simp)
    obtain ⟨m, h4, hx⟩ := osel_did hx (by simp)
    obtain ⟨h5, hx⟩ := bsel_did hx (by simp)
    obtain ⟨h6, hx⟩ := bsel_did hx (by simp)
    obtain ⟨rfl, rfl⟩ := ok_inj hx
    rw [h1, osel_s, h2, osel_s] at hf
    have hm : m ≤ 1000000 := by
      have h7 : m * (e.2.bytes + 1) ≤ 1000000 := Nat.le_of_ble_eq_true h6
      exact Nat.le_trans (Nat.le_mul_of_pos_right m (Nat.succ_pos _)) h7
    refine ⟨e.1, repL z m, plain_rep hf m, rfl, fun b => .slice (some ⟨b, 0, none⟩) n m, rfl, fun H' => ?_, .inr ⟨n, m, by omega, fun _ => rfl⟩⟩
    show onlyOk (xMakeSlice t l c P s L H' o) = _
    unfold xMakeSlice
    rw [h1, osel_s, h2, osel_s, h3, osel_s, h4, osel_s, h5, bsel_t, h6, bsel_t]
    rfl
  · cases hf
theorem float_vr {E E' : Env} {V : Nat → Value} (hV : (∀ n, V n = ptrTo n) ∨ ∃ l m, m ≤ 9223372036854775807 ∧ ∀ n, V n = .slice (some ⟨n, 0, none⟩) l m) {n n' B : Nat} {c : Value} (h : VR E (V n) c) (hB : E.bl n = some B) (hB' : E'.bl n' = some B) : VR E' (V n') c := by
  rcases hV with hV | ⟨l, m, hm, hV⟩
  · rw [hV] at h ⊢
    cases h with
    | flat h => cases h
    | ptr h => rw [hB] at h; cases h; exact .ptr hB'
  · rw [hV] at h ⊢
    cases h with
    | flat h => cases h
    | slice h hc =>
      rw [hB] at h; cases h
      refine .slice hB' (.inl ?_)
      rcases hc with hc | ⟨_, _, _, h0, _⟩
      · exact hc
      · omega
end Go.Proofs.YthgjjogleklmcaaGreatDoor.Ev
