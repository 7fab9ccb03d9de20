/- The reckoner: part EvD4. -/
import Derived.Test.YthgjjogleklmcaaGreatDoorEvD3
namespace Go.Proofs.YthgjjogleklmcaaGreatDoor.Ev
open Go.RowKit
set_option linter.unusedVariables false

/-! ### what comes ahead of what, as bits -/
theorem bitAt_eq (m t : Nat) : bitAt m t = m.testBit t := by
  unfold bitAt
  rw [Nat.testBit_eq_decide_div_mod_eq, show Nat.land (Nat.shiftRight m t) 1 = (m >>> t) &&& 1 from rfl, Nat.and_one_is_mod, Nat.shiftRight_eq_div_pow]
  rw [Bool.eq_iff_iff]
  simp
theorem bit_lor (a b t : Nat) : bitAt (Nat.lor a b) t = (bitAt a t || bitAt b t) := by
  rw [bitAt_eq, bitAt_eq, bitAt_eq]
  exact Nat.testBit_or a b t
theorem bit_one (i t : Nat) : bitAt (Nat.shiftLeft 1 i) t = decide (i = t) := by
  rw [bitAt_eq, show Nat.shiftLeft 1 i = 1 <<< i from rfl, Nat.one_shiftLeft]
  exact Nat.testBit_two_pow
theorem bit_zero (t : Nat) : bitAt 0 t = false := by rw [bitAt_eq]; exact Nat.zero_testBit t
theorem sub_bit {a b t : Nat} (h : subBits a b = true) (ht : bitAt a t = true) : bitAt b t = true := by
  have h1 : a &&& b = a := Nat.eq_of_beq_eq_true h
  rw [bitAt_eq] at ht ⊢
  rw [← h1, Nat.testBit_and] at ht
  exact (Bool.and_eq_true_iff.1 ht).2

theorem edge_in : ∀ {es : List Edge} {pm : List Nat} {i m : Nat}, edgeBits pm i es = some m → ∀ e ∈ es, bindsE e = true → e.on < i ∧ bitAt m e.on = true
  | [], _, _, _, _, e, he, _ => by cases he
  | x :: r, pm, i, m, h, e, he, hb => by
    obtain ⟨m1, h1, h⟩ := osel_opt h
    cases hx : bindsE x with
    | false =>
      rw [hx] at h
      obtain rfl := Option.some.inj h
      rcases List.mem_cons.1 he with rfl | he
      · rw [hx] at hb; cases hb
      · exact edge_in h1 e he hb
    | true =>
      rw [hx, bsel_t] at h
      obtain ⟨h2, h⟩ := bsel_opt h
      obtain ⟨q, h3, h⟩ := osel_opt h
      obtain rfl := Option.some.inj h
      rcases List.mem_cons.1 he with rfl | he
      · exact ⟨Nat.le_of_ble_eq_true h2, by rw [bit_lor, bit_lor, bit_one]; simp⟩
      · obtain ⟨g1, g2⟩ := edge_in h1 e he hb
        exact ⟨g1, by rw [bit_lor, g2]; rfl⟩
theorem edge_out : ∀ {es : List Edge} {pm : List Nat} {i m t : Nat}, edgeBits pm i es = some m → bitAt m t = true → ∃ e ∈ es, bindsE e = true ∧ e.on < i ∧ (e.on = t ∨ ∃ q, pm[e.on]? = some q ∧ bitAt q t = true)
  | [], _, _, _, t, h, ht => by
    obtain rfl := Option.some.inj h
    rw [bit_zero] at ht; cases ht
  | x :: r, pm, i, m, t, h, ht => by
    obtain ⟨m1, h1, h⟩ := osel_opt h
    have hrec : bitAt m1 t = true → ∃ e ∈ x :: r, bindsE e = true ∧ e.on < i ∧ (e.on = t ∨ ∃ q, pm[e.on]? = some q ∧ bitAt q t = true) := fun hm => by
      obtain ⟨e, g1, g2⟩ := edge_out h1 hm
      exact ⟨e, List.mem_cons_of_mem _ g1, g2⟩
    cases hx : bindsE x with
    | false =>
      rw [hx] at h
      obtain rfl := Option.some.inj h
      exact hrec ht
    | true =>
      rw [hx, bsel_t] at h
      obtain ⟨h2, h⟩ := bsel_opt h
      obtain ⟨q, h3, h⟩ := osel_opt h
      obtain rfl := Option.some.inj h
      rw [bit_lor, bit_lor, bit_one] at ht
      have hlt : x.on < i := Nat.le_of_ble_eq_true h2
      rw [nth_eq] at h3
      rcases Bool.or_eq_true_iff.1 ht with ht | ht
      · exact hrec ht
      · rcases Bool.or_eq_true_iff.1 ht with ht | ht
        · exact ⟨x, by simp, hx, hlt, .inr ⟨q, h3, ht⟩⟩
        · exact ⟨x, by simp, hx, hlt, .inl (of_decide_eq_true ht)⟩
theorem preds_at : ∀ {l : List Oper} {all : List Oper} {pm PM : List Nat} {i : Nat}, predsL all l pm i = some PM → pm.length = i →
    ∃ tl, PM = pm ++ tl ∧ tl.length = l.length ∧ ∀ j o, l[j]? = some o → ∃ m, tl[j]? = some m ∧ edgeBits (pm ++ tl.take j) (i + j) o.after.toList = some m ∧ readsOk all m (i + j) o.op.operands.toList = true ∧ guardOk m o.guard = true
  | [], all, pm, PM, i, h, hi => ⟨[], by obtain rfl := Option.some.inj h; simp, rfl, fun j o ho => by simp at ho⟩
  | o :: r, all, pm, PM, i, h, hi => by
    obtain ⟨m, h1, h⟩ := osel_opt h
    obtain ⟨h2, h⟩ := bsel_opt h
    obtain ⟨h3, h⟩ := bsel_opt h
    obtain ⟨tl, e1, e2, e3⟩ := preds_at (i := Nat.succ i) h (by simp [hi])
    refine ⟨m :: tl, by rw [e1]; simp, by simp [e2], fun j o' ho => ?_⟩
    cases j with
    | zero =>
      obtain rfl : o = o' := by simpa using ho
      exact ⟨m, rfl, by simpa using h1, h2, h3⟩
    | succ j =>
      obtain ⟨m', g1, g2, g3⟩ := e3 j o' (by simpa using ho)
      refine ⟨m', by simpa using g1, ?_, by rw [show i + (j + 1) = Nat.succ i + j by omega]; exact g3⟩
      rw [List.take_succ_cons, show i + (j + 1) = Nat.succ i + j by omega]
      rwa [List.append_assoc, List.singleton_append] at g2
theorem dst_bit : ∀ {l : List Oper} {t i j : Nat} {o : Oper}, l[j]? = some o → o.dst = some t → bitAt (dstBit t l i) (i + j) = true
  | [], _, _, _, _, h, _ => by simp at h
  | x :: r, t, i, j, o, h, hd => by
    show bitAt (Nat.lor (osel x.dst 0 fun d => bsel (Nat.beq d t) (Nat.shiftLeft 1 i) 0) (dstBit t r (Nat.succ i))) (i + j) = true
    rw [bit_lor]
    cases j with
    | zero =>
      obtain rfl : x = o := by simpa using h
      rw [hd, osel_s, Nat.beq_refl, bsel_t, bit_one]
      simp
    | succ j =>
      have := dst_bit (i := Nat.succ i) (l := r) (by simpa using h) hd
      rw [show i + (j + 1) = Nat.succ i + j by omega, this, Bool.or_true]
theorem dsts_apart : ∀ {l : List Oper}, dstsApart l = true → ∀ {j k : Nat} {o o' : Oper} {t : Tmp}, l[j]? = some o → l[k]? = some o' → o.dst = some t → o'.dst = some t → j = k
  | [], _, _, _, _, _, _, h, _, _, _ => by simp at h
  | x :: r, h, j, k, o, o', t, hj, hk, h1, h2 => by
    obtain ⟨h3, h4⟩ := bsel_and h
    have no : ∀ {k : Nat} {o o' : Oper}, x = o → r[k]? = some o' → o.dst = some t → o'.dst = some t → False := fun {k o o'} hx hk h1 h2 => by
      subst hx
      rw [h1, osel_s] at h3
      have := dst_bit (i := 0) hk h2
      rw [show dstBit t r 0 = 0 from Nat.eq_of_beq_eq_true h3, bit_zero] at this
      cases this
    cases j with
    | zero =>
      cases k with
      | zero => rfl
      | succ k => exact (no (by simpa using hj) (by simpa using hk) h1 h2).elim
    | succ j =>
      cases k with
      | zero => exact (no (by simpa using hk) (by simpa using hj) h2 h1).elim
      | succ k => exact congrArg (· + 1) (dsts_apart h4 (j := j) (k := k) (by simpa using hj) (by simpa using hk) h1 h2)
theorem edge_to : ∀ {es : List Edge} {i : Nat}, edgeTo i es = true → ∃ e ∈ es, bindsE e = true ∧ e.on = i
  | [], _, h => by cases h
  | x :: r, i, h => by
    unfold edgeTo at h
    cases hx : bsel (bindsE x) (Nat.beq x.on i) false with
    | true =>
      obtain ⟨h1, h2⟩ := bsel_and hx
      exact ⟨x, by simp, h1, Nat.eq_of_beq_eq_true h2⟩
    | false =>
      rw [hx, bsel_f] at h
      obtain ⟨e, g1, g2⟩ := edge_to h
      exact ⟨e, List.mem_cons_of_mem _ g1, g2⟩
theorem late_at : ∀ {l : List Oper} {m i t j0 : Nat}, lateOk m i t l j0 = true → ∀ {j : Nat} {o : Oper}, l[j]? = some o → o.dst = some t → bitAt m (j0 + j) = true ∨ j0 + j = i ∨ ∃ e ∈ o.after.toList, bindsE e = true ∧ e.on = i
  | [], _, _, _, _, _, _, _, h, _ => by simp at h
  | x :: r, m, i, t, j0, h, j, o, hj, hd => by
    obtain ⟨h1, h2⟩ := bsel_and h
    cases j with
    | zero =>
      obtain rfl : x = o := by simpa using hj
      rw [hd, osel_s, Nat.beq_refl, bsel_t] at h1
      cases hb : bitAt m j0 with
      | true => exact .inl rfl
      | false =>
        rw [hb, bsel_f] at h1
        cases hi : Nat.beq j0 i with
        | true => exact .inr (.inl (Nat.eq_of_beq_eq_true hi))
        | false =>
          rw [hi, bsel_f] at h1
          exact .inr (.inr (edge_to h1))
    | succ j =>
      have := late_at h2 (j := j) (by simpa using hj) hd
      rwa [show Nat.succ j0 + j = j0 + (j + 1) by omega] at this
theorem reads_at : ∀ {xs : List Operand} {all : List Oper} {m i : Nat}, readsOk all m i xs = true → ∀ {t : Tmp}, Operand.tmp t ∈ xs → ∀ {j : Nat} {o : Oper}, all[j]? = some o → o.dst = some t → bitAt m j = true ∨ j = i ∨ ∃ e ∈ o.after.toList, bindsE e = true ∧ e.on = i
  | [], _, _, _, _, _, h, _, _, _, _ => by cases h
  | x :: r, all, m, i, h, t, hm, j, o, hj, hd => by
    obtain ⟨h1, h2⟩ := bsel_and h
    rcases List.mem_cons.1 hm with rfl | hm
    · have h1 : bsel (subBits (dstBit t all 0) m) true (lateOk m i t all 0) = true := by simpa [readsOf, osel_s] using h1
      cases hs : subBits (dstBit t all 0) m with
      | true =>
        have := dst_bit (i := 0) hj hd
        rw [Nat.zero_add] at this
        exact .inl (sub_bit hs this)
      | false =>
        rw [hs, bsel_f] at h1
        simpa using late_at h1 hj hd
    · exact reads_at h2 hm hj hd
theorem readsS_at : ∀ {xs : List Operand} {all : List Oper} {m : Nat}, readsS all m xs = true → ∀ {t : Tmp}, Operand.tmp t ∈ xs → ∀ {j : Nat} {o : Oper}, all[j]? = some o → o.dst = some t → bitAt m j = true
  | [], _, _, _, _, h, _, _, _, _ => by cases h
  | x :: r, all, m, h, t, hm, j, o, hj, hd => by
    obtain ⟨h1, h2⟩ := bsel_and h
    rcases List.mem_cons.1 hm with rfl | hm
    · have := dst_bit (i := 0) hj hd
      rw [Nat.zero_add] at this
      exact sub_bit (by simpa [readsOf, osel_s] using h1) this
    · exact readsS_at h2 hm hj hd
theorem row_at {P : Tb} : ∀ {rs : List Rec} {pm : List Nat} {i acts : Nat}, rowOk P rs pm i acts = true → ∀ {j : Nat} {c : Rec}, rs[j]? = some c → c.act = true → floatO P c.o = false →
    (∀ t, bitAt acts t = true → bitAt (pm.getD j 0) t = true) ∧ ∀ {k : Nat} {c' : Rec}, k < j → rs[k]? = some c' → c'.act = true → bitAt (pm.getD j 0) (i + k) = true
  | [], _, _, _, _, _, _, h, _, _ => by simp at h
  | x :: r, pm, i, acts, h, j, c, hj, ha, hf => by
    have hd : pm.headD 0 = pm.getD 0 0 := by cases pm <;> rfl
    have ht : ∀ j, pm.tail.getD j 0 = pm.getD (j + 1) 0 := fun j => by cases pm <;> simp
    unfold rowOk at h
    cases hx : x.act with
    | true =>
      rw [hx, bsel_t] at h
      obtain ⟨h1, h2⟩ := bsel_and h
      cases j with
      | zero =>
        obtain rfl : x = c := by simpa using hj
        refine ⟨fun t hb => ?_, fun hk => by omega⟩
        rw [← hd]
        cases hs : subBits acts (pm.headD 0) with
        | true => exact sub_bit hs hb
        | false => rw [hs, bsel_f, hf] at h1; cases h1
      | succ j =>
        obtain ⟨g1, g2⟩ := row_at h2 (j := j) (by simpa using hj) ha hf
        rw [ht] at g1 g2
        refine ⟨fun t hb => g1 t (by rw [bit_lor, hb]; rfl), fun {k c'} hk hc hca => ?_⟩
        cases k with
        | zero => exact g1 _ (by rw [bit_lor, bit_one]; simp)
        | succ k =>
          have := g2 (k := k) (by omega) (by simpa using hc) hca
          rwa [show Nat.succ i + k = i + (k + 1) by omega] at this
    | false =>
      rw [hx, bsel_f] at h
      cases j with
      | zero =>
        obtain rfl : x = c := by simpa using hj
        rw [hx] at ha; cases ha
      | succ j =>
        obtain ⟨g1, g2⟩ := row_at h (j := j) (by simpa using hj) ha hf
        rw [ht] at g1 g2
        refine ⟨g1, fun {k c'} hk hc hca => ?_⟩
        cases k with
        | zero =>
          obtain rfl : x = c' := by simpa using hc
          rw [hx] at hca; cases hca
        | succ k =>
          have := g2 (k := k) (by omega) (by simpa using hc) hca
          rwa [show Nat.succ i + k = i + (k + 1) by omega] at this
end Go.Proofs.YthgjjogleklmcaaGreatDoor.Ev
