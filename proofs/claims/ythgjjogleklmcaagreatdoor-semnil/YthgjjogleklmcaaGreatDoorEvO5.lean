/- The reckoner: part EvO5. -/
import Derived.Test.YthgjjogleklmcaaGreatDoorEvO4
import Derived.Laws.LoneSync
namespace Go.Proofs.YthgjjogleklmcaaGreatDoor.Ev
open Go.RowKit
set_option linter.unusedVariables false
section
variable {P : Tb} {w0 : Base} {E : Env} {H H' : St} {w : World} {s : Lc} {L : Ls} {a : Act} {o : Oper} {v c d : Value}

theorem isConst_eq {x : Operand} (h : isConst x = true) : ∃ c, x = .const c := by
  cases x with
  | const c => exact ⟨c, rfl⟩
  | _ => cases h

theorem ptrEq_ok (K : TbOk P) {t : TypeId} {x y : Addr} {r : Bool} (hx : VR E (.pointer (some x)) c) (hy : VR E (.pointer (some y)) d) (h : ptrEq P t x y = some r) :
    (Op.equal t c d).run P.P w = .ok r w := by
  obtain ⟨i, h1, h⟩ := osel_opt h
  have hu := (K.ty t i h1).under
  cases hd : i.under with
  | pointer e =>
    rw [hd] at h hu
    obtain ⟨j, h2, h⟩ := osel_opt h
    cases h3 : Nat.beq j.size 0 with
    | true => rw [h3] at h; cases h
    | false =>
      rw [h3] at h
      obtain ⟨h4, h⟩ := bsel_opt h
      obtain ⟨h5, h⟩ := bsel_opt h
      obtain ⟨h6, h⟩ := bsel_opt h
      obtain rfl := Option.some.inj h
      have hz : ¬ j.size = 0 := fun e => by rw [e] at h3; cases h3
      have hs := (K.ty e j h2).sizeOf w
      obtain ⟨B, hB, rfl⟩ := hx.pointer_inv
      obtain ⟨B', hB', rfl⟩ := hy.pointer_inv
      have : x.block = y.block := Nat.eq_of_beq_eq_true h6
      rw [← this, hB] at hB'; cases hB'
      have hab : ((⟨B, x.off, x.spot⟩ : Addr) == ⟨B, y.off, y.spot⟩) = Nat.beq x.off y.off := by
        rw [noSpot_iff h4, noSpot_iff h5, Bool.eq_iff_iff]
        simp
      have key : ∀ dd : Nat, (Op.equalIn (dd + 1) t (.pointer (some ⟨B, x.off, x.spot⟩)) (.pointer (some ⟨B, y.off, y.spot⟩))).run P.P w = .ok (Nat.beq x.off y.off) w := fun dd => by
        rw [← hab]
        simp [Op.equalIn, run_underlying hu, hs, hz, sameAddr]
      exact key 9999
  | _ => rw [hd] at h; cases h

theorem nil_eq {Q : Program} {t : TypeId} {m : Array (String × TypeId)} (hu : Q.underlying t = some (.interface m)) : (Op.equal t .nilIface .nilIface).run Q w = .ok true w := by
  have key : ∀ dd : Nat, (Op.equalIn (dd + 1) t .nilIface .nilIface).run Q w = .ok true w := fun dd => by simp [Op.equalIn, run_underlying hu]
  exact key 9999

theorem binOp_eql_of {t : TypeId} (h1 : ∀ k n, c ≠ .int k n) (h2 : ∀ k n, c ≠ .float k n) (h3 : ∀ k n m, c ≠ .complex k n m) (h4 : ∀ z, c ≠ .string z) : binOp .eql t c d = (do pure (.bool (← Op.equal t c d))) := by
  cases c with
  | int k n => exact absurd rfl (h1 _ _)
  | float k n => exact absurd rfl (h2 _ _)
  | complex k n m => exact absurd rfl (h3 _ _ _)
  | string z => exact absurd rfl (h4 _)
  | _ => simp [binOp]
theorem binOp_neq_of {t : TypeId} (h1 : ∀ k n, c ≠ .int k n) (h2 : ∀ k n, c ≠ .float k n) (h3 : ∀ k n m, c ≠ .complex k n m) (h4 : ∀ z, c ≠ .string z) : binOp .neq t c d = (do pure (.bool (!(← Op.equal t c d)))) := by
  cases c with
  | int k n => exact absurd rfl (h1 _ _)
  | float k n => exact absurd rfl (h2 _ _)
  | complex k n m => exact absurd rfl (h3 _ _ _)
  | string z => exact absurd rfl (h4 _)
  | _ => simp [binOp]

/-- the four kinds that have operators of their own -/
def own4 : Value → Bool
  | .int _ _ | .float _ _ | .complex _ _ _ | .string _ => true
  | _ => false
theorem own4_VR {x : Value} (h : VR E x c) (hx : own4 x = false) (hh : ∀ k, x ≠ .chan (some k)) : own4 c = false := by
  cases h with
  | hole => exact absurd rfl (hh _)
  | flat _ => exact hx
  | _ => rfl
theorem bin_eq' {op : BinOp} {t : TypeId} {x y : Operand} {yt : TypeId} (hop : o.op = .binOp op t x y yt) (hc : a.eval x = c) (hd : a.eval y = d) {r : Bool}
    (hq : (Op.equal t c d).run P.P w = .ok r w) (hg : (eqGuard op t x y c d).run P.P w = .ok () w) (h4 : own4 c = false)
    {f : Bool → Bool} (hf : (op = .eql ∧ f = idB) ∨ (op = .neq ∧ f = not)) : (execOp a.eval o).run P.P w = .ok (.value (.bool (f r))) w := by
  have k1 : ∀ k n, c ≠ .int k n := fun k n e => by rw [e] at h4; cases h4
  have k2 : ∀ k n, c ≠ .float k n := fun k n e => by rw [e] at h4; cases h4
  have k3 : ∀ k n m, c ≠ .complex k n m := fun k n m e => by rw [e] at h4; cases h4
  have k4 : ∀ z, c ≠ .string z := fun z e => by rw [e] at h4; cases h4
  rcases hf with ⟨rfl, rfl⟩ | ⟨rfl, rfl⟩
  · simp [execOp, hop, hc, hd, hg, binOp_eql_of k1 k2 k3 k4, hq, idB]
  · simp [execOp, hop, hc, hd, hg, binOp_neq_of k1 k2 k3 k4, hq]

theorem aInt_plain {op : BinOp} {k : IntKind} {m n : Int} (h : aInt op k m n = some v) : plain v = true := by
  cases op <;> simp only [aInt] at h <;> first | (cases h; done) | (obtain rfl := Option.some.inj h; rfl)
theorem strOp_plain {op : BinOp} {m n : List UInt8} (h : strOp op m n = some v) : plain v = true := by
  cases op <;> simp only [strOp] at h <;> first | (cases h; done) | (obtain rfl := Option.some.inj h; rfl) | (obtain ⟨_, h⟩ := bsel_opt h; obtain rfl := Option.some.inj h; rfl)

theorem binV_ok (K : TbOk P) {op : BinOp} {t : TypeId} {x y : Operand} {yt : TypeId} (hS : LocR E s L a) (hop : o.op = .binOp op t x y yt) {u z : Value} (hx : evO s L x = some u) (hy : evO s L y = some z)
    (h : binV P op t x y H (execPure P s L H o) u z = .ok v H') : H' = H ∧ Quiet P E w o a v := by
  have hk : execPure P s L H o = .ok v H' → H' = H ∧ Quiet P E w o a v := fun h => execPure_ok hS (by simp [hop]) h
  have hu := hS x u hx
  have hz := hS y z hy
  have tail : own4 u = false → (∀ k, u ≠ .chan (some k)) → (osel (P.ty.get t) (.fail 68) fun i => match op with
    | .eql => eqOp H idB (execPure P s L H o) (eqV i.under u z)
    | .neq => eqOp H not (execPure P s L H o) (eqV i.under u z)
    | _ => execPure P s L H o) = .ok v H' → H' = H ∧ Quiet P E w o a v := fun h4 h5 h => by
    obtain ⟨i, h1, h⟩ := osel_did h (by simp)
    have hun := (K.ty t i h1).under
    have go : ∀ f : Bool → Bool, (op = .eql ∧ f = idB) ∨ (op = .neq ∧ f = not) → eqOp H f (execPure P s L H o) (eqV i.under u z) = .ok v H' → H' = H ∧ Quiet P E w o a v := fun f hf h => by
      rcases eqOp_ok h with ⟨b, hb, rfl, rfl⟩ | h
      · obtain ⟨h6, h7, h8⟩ := eqV_ok (w := w) hun hu hz hb
        exact ⟨rfl, _, .flat rfl, bin_eq' hop rfl rfl h6 (eqGuard_free h7 h8) (own4_VR hu h4 h5) hf⟩
      · exact hk h
    cases op with
    | eql => exact go idB (.inl ⟨rfl, rfl⟩) h
    | neq => exact go not (.inr ⟨rfl, rfl⟩) h
    | _ => exact hk h
  unfold binV at h
  split at h
  · rename_i k1 m k2 n
    cases hkk : kindEq k1 k2 with
    | false => rw [hkk, bsel_f] at h; exact hk h
    | true =>
      rw [hkk, bsel_t] at h
      obtain rfl := kindEq_eq hkk
      rcases fromO_ok h with ⟨hq, rfl⟩ | hq
      · refine ⟨rfl, v, VR.of_plain E v (aInt_plain hq), ?_⟩
        have e1 : a.eval x = .int k1 m := hu.plain rfl
        have e2 : a.eval y = .int k1 n := hz.plain rfl
        have hg : (eqGuard op t x y (.int k1 m) (.int k1 n)).run P.P w = .ok () w := eqGuard_free (.inl (by simp)) (by simp)
        simp [execOp, hop, e1, e2, hg, aInt_ok hq]
      · exact hk hq
  · rename_i m n
    rcases fromO_ok h with ⟨hq, rfl⟩ | hq
    · refine ⟨rfl, v, VR.of_plain E v (strOp_plain hq), ?_⟩
      have e1 : a.eval x = .string m := hu.plain rfl
      have e2 : a.eval y = .string n := hz.plain rfl
      have hg : (eqGuard op t x y (.string m) (.string n)).run P.P w = .ok () w := eqGuard_free (.inl (by simp)) (by simp)
      have hb : binOp op t (.string m) (.string n) = Op.stringOp op m n := by cases op <;> rfl
      simp [execOp, hop, e1, e2, hg, hb, strOp_ok hq]
    · exact hk hq
  · rename_i p q
    have go : ∀ f : Bool → Bool, (op = .eql ∧ f = idB) ∨ (op = .neq ∧ f = not) → eqOp H f (execPure P s L H o) (ptrEq P t p q) = .ok v H' → H' = H ∧ Quiet P E w o a v := fun f hf h => by
      rcases eqOp_ok h with ⟨b, hb, rfl, rfl⟩ | h
      · obtain ⟨B, hB, e1⟩ := hu.pointer_inv
        exact ⟨rfl, _, .flat rfl, bin_eq' hop rfl rfl (ptrEq_ok (w := w) K hu hz hb) (by rw [e1]; exact eqGuard_free (.inl (by simp)) (by simp)) (by rw [e1]; rfl) hf⟩
      · exact hk h
    split at h
    · exact go idB (.inl ⟨rfl, rfl⟩) h
    · exact go not (.inr ⟨rfl, rfl⟩) h
    · cases h
  · obtain ⟨i, h1, h⟩ := osel_did h (by simp)
    obtain ⟨h2, h⟩ := bsel_did h (by simp)
    obtain ⟨h3, h⟩ := bsel_did h (by simp)
    have hun := (K.ty t i h1).under
    obtain ⟨m, hm⟩ : ∃ m, i.under = .interface m := by
      cases hd : i.under with
      | interface m => exact ⟨m, rfl⟩
      | _ => rw [hd] at h2; cases h2
    rw [hm] at hun
    have e1 : a.eval x = .nilIface := hu.plain rfl
    have e2 : a.eval y = .nilIface := hz.plain rfl
    have hg : (eqGuard op t x y .nilIface .nilIface).run P.P w = .ok () w := by
      cases hcx : isConst x with
      | true => obtain ⟨c, rfl⟩ := isConst_eq hcx; cases op <;> rfl
      | false =>
        rw [hcx, bsel_f] at h3
        obtain ⟨c, rfl⟩ := isConst_eq h3
        cases op <;> simp [eqGuard]
    split at h
    · obtain ⟨rfl, rfl⟩ := ok_inj h
      exact ⟨rfl, _, .flat rfl, bin_eq' hop e1 e2 (nil_eq hun) hg rfl (f := idB) (.inl ⟨rfl, rfl⟩)⟩
    · obtain ⟨rfl, rfl⟩ := ok_inj h
      exact ⟨rfl, _, .flat rfl, bin_eq' hop e1 e2 (nil_eq hun) hg rfl (f := not) (.inr ⟨rfl, rfl⟩)⟩
    · cases h
  · rename_i n1 n2 n3 n4
    by_cases h4 : own4 u = false ∧ ∀ k, u ≠ .chan (some k)
    · exact tail h4.1 h4.2 h
    · refine hk ?_
      obtain ⟨i, h1, h⟩ := osel_did h (by simp)
      have hnone : eqV i.under u z = none := by
        cases u <;> first | (cases i.under <;> rfl; done) | (exact absurd ⟨rfl, fun _ e => nomatch e⟩ h4)
      rw [hnone] at h
      cases op <;> exact h

theorem xBin_ok (K : TbOk P) {op : BinOp} {t : TypeId} {x y : Operand} {yt : TypeId} (hS : LocR E s L a) (hop : o.op = .binOp op t x y yt) (h : xBin op t x y P s L H o = .ok v H') : H' = H ∧ Quiet P E w o a v := by
  obtain ⟨u, h1, h⟩ := osel_did h (by simp)
  obtain ⟨z, h2, h⟩ := osel_did h (by simp)
  exact binV_ok K hS hop h1 h2 h
end
end Go.Proofs.YthgjjogleklmcaaGreatDoor.Ev
