/- Codes written and read: the mathematics. -/
import Derived.Test.YtefklmckkigllaaCoM
namespace Go.Proofs.Ytefklmckkigllaa
open Go.RowKit
set_option linter.unusedVariables false

theorem ub_bytes (n : Nat) (l : List UInt8) : ub n :: l = bytesOf 1 n ++ l := by
  show _ = ub (n / 256 ^ 0 % 256) :: ([] ++ l)
  rw [Nat.pow_zero, Nat.div_one, List.nil_append]
  congr 1
  apply UInt8.toNat_inj.1
  simp [ub]
theorem codV : Cod valR encV Vl.Ok :=
  ((codNum 1).then (codNum 8)).map (fun p => (⟨p.1, p.2⟩ : Vl)) (fun v : Vl => (v.t, v.b)) encV Vl.Ok
    (fun v _ => ub_bytes v.t (bytesOf 8 v.b))
    (fun v hv => ⟨by have := hv.1; show v.t < 256 ^ 1; omega, by have := hv.2; show v.b < 256 ^ 8; omega⟩)
    (fun v _ => rfl)
    (fun p hp => ⟨⟨by have := hp.1; show p.1 < 256; omega, by have := hp.2; show p.2 < 18446744073709551616; omega⟩, rfl⟩)

/-- An instruction that may be written. -/
def FI (x : Ir) : Prop := x.op < 256 ∧ (0 ≤ x.arg ∧ x.arg < 256) ∧ x.v.Ok ∧ (x.op ≠ 1 → x.v = ⟨0, 0⟩)
theorem vl0_ok : Vl.Ok ⟨0, 0⟩ := ⟨by decide, by decide⟩
theorem codI : Cod insR encI FI where
  to x r hx := by
    obtain ⟨h1, ⟨h2, h3⟩, h4, h5⟩ := hx
    obtain ⟨op, arg, v⟩ := x
    dsimp only at h1 h2 h3 h4 h5
    obtain ⟨n, rfl⟩ : ∃ n : Nat, arg = (n : Int) := ⟨arg.toNat, by omega⟩
    have hn : n < 256 ^ 1 := by omega
    have e : encI ⟨op, (n : Int), v⟩ ++ r = bytesOf 1 op ++ (bytesOf 1 n ++ ((if op = 1 then encV v else []) ++ r)) := by
      rw [← ub_bytes, ← ub_bytes]
      rfl
    rw [e]
    unfold insR
    have q1 := (codNum 1).to op (bytesOf 1 n ++ ((if op = 1 then encV v else []) ++ r)) (show op < 256 ^ 1 by omega)
    have q2 := (codNum 1).to n ((if op = 1 then encV v else []) ++ r) hn
    rw [q1]
    dsimp only
    rw [q2]
    dsimp only
    by_cases ho : op = 1
    · rw [if_pos ho, if_pos ho, codV.to v r h4]
    · rw [if_neg ho, if_neg ho, h5 ho]
      rfl
  back b x r hx := by
    unfold insR at hx
    obtain ⟨op, b1, c1, hF⟩ : ∃ a b1 c, numR 1 (b, false) = (a, (b1, c)) := ⟨_, _, _, rfl⟩
    rw [hF] at hx
    dsimp only at hx
    obtain ⟨n, b2, c2, hG⟩ : ∃ a b2 c, numR 1 (b1, c1) = (a, (b2, c)) := ⟨_, _, _, rfl⟩
    rw [hG] at hx
    dsimp only at hx
    by_cases ho : op = 1
    · rw [if_pos ho] at hx
      obtain ⟨v, s3, hH⟩ : ∃ a s, valR (b2, c2) = (a, s) := ⟨_, _, rfl⟩
      rw [hH] at hx
      dsimp only at hx
      injection hx with g1 g2
      subst g1 g2
      have e2 : c2 = false := codV.good (st := (b2, c2)) (by rw [hH])
      subst e2
      have e1 : c1 = false := (codNum 1).good (st := (b1, c1)) (by rw [hG])
      subst e1
      obtain ⟨k1, l1⟩ := (codNum 1).back _ _ _ hF
      obtain ⟨k2, l2⟩ := (codNum 1).back _ _ _ hG
      obtain ⟨k3, l3⟩ := codV.back _ _ _ hH
      refine ⟨?_, by show op < 256; omega, ⟨by show (0 : Int) ≤ (n : Int); omega, by show (n : Int) < 256; omega⟩, l3, fun h => absurd ho h⟩
      show b = (ub op :: ub ((n : Int)).toNat :: (if op = 1 then encV v else [])) ++ r
      rw [k1, k2, k3, if_pos ho, Int.toNat_natCast, List.cons_append, List.cons_append, ub_bytes, ub_bytes]
    · rw [if_neg ho] at hx
      injection hx with g1 g2
      injection g2 with g2 g3
      subst g1 g2 g3
      have e1 : c1 = false := (codNum 1).good (st := (b1, c1)) (by rw [hG])
      subst e1
      obtain ⟨k1, l1⟩ := (codNum 1).back _ _ _ hF
      obtain ⟨k2, l2⟩ := (codNum 1).back _ _ _ hG
      refine ⟨?_, by show op < 256; omega, ⟨by show (0 : Int) ≤ (n : Int); omega, by show (n : Int) < 256; omega⟩, vl0_ok, fun _ => rfl⟩
      show b = (ub op :: ub ((n : Int)).toNat :: (if op = 1 then encV ⟨0, 0⟩ else [])) ++ b2
      rw [k1, k2, if_neg ho, Int.toNat_natCast, List.cons_append, List.cons_append, ub_bytes, ub_bytes, List.nil_append]
  bad b := by
    unfold insR
    have h1 : ∀ st : St, st.2 = true → (numR 1 st).2.2 = true := fun st h => by obtain ⟨q, c⟩ := st; cases h; exact (codNum 1).bad q
    have h2 : ∀ st : St, st.2 = true → (valR st).2.2 = true := fun st h => by obtain ⟨q, c⟩ := st; cases h; exact codV.bad q
    split
    · exact h2 _ (h1 _ (h1 _ rfl))
    · exact h1 _ (h1 _ rfl)

/-- Lists and numbers that have room in their bytes. -/
def FN (x : Nd) : Prop := (x.code.length ≤ 8192 ∧ ∀ y ∈ x.code, FI y) ∧ (0 ≤ x.kind ∧ x.kind < 256) ∧ (0 ≤ x.arg ∧ x.arg < 256) ∧ (0 ≤ x.next ∧ x.next < 65536) ∧ (0 ≤ x.alt ∧ x.alt < 65536)
def FB (b : Bd) : Prop := (b.locals.length ≤ 16 ∧ ∀ v ∈ b.locals, v.Ok) ∧ (0 ≤ b.stack ∧ b.stack < 256) ∧ (b.nodes.length ≤ 1024 ∧ ∀ n ∈ b.nodes, FN n)
def FC (c : Cd) : Prop := (c.shared.length ≤ 32 ∧ ∀ v ∈ c.shared, v.Ok) ∧ (0 ≤ c.mutexes ∧ c.mutexes < 256) ∧ (c.bodies.length ≤ 16 ∧ ∀ b ∈ c.bodies, FB b)
theorem codN : Cod nodR encN FN :=
  ((codI.list 2 8192).then ((codNum 1).then ((codNum 1).then ((codNum 2).then (codNum 2))))).map
    (fun p => (⟨p.1, (p.2.1 : Int), (p.2.2.1 : Int), (p.2.2.2.1 : Int), (p.2.2.2.2 : Int)⟩ : Nd)) (fun x => (x.code, x.kind.toNat, x.arg.toNat, x.next.toNat, x.alt.toNat)) encN FN
    (fun x _ => by
      show bytesOf 2 x.code.length ++ x.code.flatMap encI ++ (ub x.kind.toNat :: ub x.arg.toNat :: (bytesOf 2 x.next.toNat ++ bytesOf 2 x.alt.toNat)) = _
      rw [ub_bytes, ub_bytes])
    (fun x hx => by
      obtain ⟨⟨h1, h2⟩, h3, h4, h5, h6⟩ := hx
      refine ⟨⟨h1, ?_, h2⟩, ?_, ?_, ?_, ?_⟩
      · show x.code.length < 256 ^ 2; omega
      · show x.kind.toNat < 256 ^ 1; omega
      · show x.arg.toNat < 256 ^ 1; omega
      · show x.next.toNat < 256 ^ 2; omega
      · show x.alt.toNat < 256 ^ 2; omega)
    (fun x hx => by
      obtain ⟨_, h3, h4, h5, h6⟩ := hx
      obtain ⟨code, kind, arg, next, alt⟩ := x
      dsimp only at h3 h4 h5 h6 ⊢
      rw [Int.toNat_of_nonneg h3.1, Int.toNat_of_nonneg h4.1, Int.toNat_of_nonneg h5.1, Int.toNat_of_nonneg h6.1])
    (fun p hp => by
      obtain ⟨⟨h1, h2, h3⟩, h4, h5, h6, h7⟩ := hp
      obtain ⟨l, k1, k2, k3, k4⟩ := p
      dsimp only at h1 h2 h3 h4 h5 h6 h7 ⊢
      refine ⟨⟨⟨h1, h3⟩, ⟨?_, ?_⟩, ⟨?_, ?_⟩, ⟨?_, ?_⟩, ⟨?_, ?_⟩⟩, ?_⟩
      all_goals first | (dsimp only; omega) | (simp; done))
theorem codB : Cod bodR encB FB :=
  ((codV.list 1 16).then ((codNum 1).then (codN.list 2 1024))).map
    (fun p => (⟨p.1, (p.2.1 : Int), p.2.2⟩ : Bd)) (fun x => (x.locals, x.stack.toNat, x.nodes)) encB FB
    (fun x _ => by
      show (ub x.locals.length :: x.locals.flatMap encV) ++ (ub x.stack.toNat :: (bytesOf 2 x.nodes.length ++ x.nodes.flatMap encN)) = _
      rw [ub_bytes, ub_bytes])
    (fun x hx => by
      obtain ⟨⟨h1, h2⟩, h3, h4, h5⟩ := hx
      refine ⟨⟨h1, ?_, h2⟩, ?_, h4, ?_, h5⟩
      · show x.locals.length < 256 ^ 1; omega
      · show x.stack.toNat < 256 ^ 1; omega
      · show x.nodes.length < 256 ^ 2; omega)
    (fun x hx => by
      obtain ⟨_, h3, _⟩ := hx
      obtain ⟨ls, k, ns⟩ := x
      dsimp only at h3 ⊢
      rw [Int.toNat_of_nonneg h3.1])
    (fun p hp => by
      obtain ⟨⟨h1, h2, h3⟩, h4, h5, h6, h7⟩ := hp
      obtain ⟨l, k1, m⟩ := p
      dsimp only at h1 h2 h3 h4 h5 h6 h7 ⊢
      refine ⟨⟨⟨h1, h3⟩, ⟨?_, ?_⟩, h5, h7⟩, ?_⟩
      all_goals first | (dsimp only; omega) | (simp; done))
theorem codC : Cod codR encC FC :=
  ((codV.list 1 32).then ((codNum 1).then (codB.list 1 16))).map
    (fun p => (⟨p.1, (p.2.1 : Int), p.2.2⟩ : Cd)) (fun x => (x.shared, x.mutexes.toNat, x.bodies)) encC FC
    (fun x _ => by
      show (ub x.shared.length :: x.shared.flatMap encV) ++ (ub x.mutexes.toNat :: ub x.bodies.length :: x.bodies.flatMap encB) = _
      rw [ub_bytes, ub_bytes, ub_bytes])
    (fun x hx => by
      obtain ⟨⟨h1, h2⟩, h3, h4, h5⟩ := hx
      refine ⟨⟨h1, ?_, h2⟩, ?_, h4, ?_, h5⟩
      · show x.shared.length < 256 ^ 1; omega
      · show x.mutexes.toNat < 256 ^ 1; omega
      · show x.bodies.length < 256 ^ 1; omega)
    (fun x hx => by
      obtain ⟨_, h3, _⟩ := hx
      obtain ⟨ls, k, ns⟩ := x
      dsimp only at h3 ⊢
      rw [Int.toNat_of_nonneg h3.1])
    (fun p hp => by
      obtain ⟨⟨h1, h2, h3⟩, h4, h5, h6, h7⟩ := hp
      obtain ⟨l, k1, m⟩ := p
      dsimp only at h1 h2 h3 h4 h5 h6 h7 ⊢
      refine ⟨⟨⟨h1, h3⟩, ⟨?_, ?_⟩, h5, h7⟩, ?_⟩
      all_goals first | (dsimp only; omega) | (simp; done))

/-- A code that is one has room in its bytes. -/
theorem mayI_zero {nl ns : Nat} {x : Ir} (h : mayI nl ns x = true) (ho : x.op ≠ 1) : x.v = ⟨0, 0⟩ := by
  have key : x.v.t = 0 ∧ x.v.b = 0 := by
    unfold mayI at h
    rw [if_neg ho] at h
    split at h
    · exact of_decide_eq_true (Bool.and_eq_true _ _ ▸ h).2
    · split at h
      · exact of_decide_eq_true (Bool.and_eq_true _ _ ▸ h).2
      · simp only [Bool.and_eq_true] at h
        exact of_decide_eq_true h.2.2.2
  obtain ⟨op, arg, ⟨t, b⟩⟩ := x
  obtain ⟨h1, h2⟩ := key
  dsimp only at h1 h2
  subst h1 h2
  rfl
theorem fc_of {c : Cd} (h : checkC c = 0) (hok : OkC c) : FC c := by
  have hf := fit_of h hok
  obtain ⟨h1, h2, -, -⟩ := check_zero h
  obtain ⟨s1, s2, s3⟩ := small_of h1
  unfold partC at h2
  rw [Bool.or_eq_false_iff, Bool.or_eq_false_iff] at h2
  have m3 : c.bodies.all (mayB c.shared.length c.mutexes) = true := by simpa using h2.2.2
  refine ⟨⟨s2, hok.1⟩, hf.2.1, s1, fun b hb => ?_⟩
  obtain ⟨t1, t2, t3⟩ := s3 b hb
  have fb := hf.2.2.2 b hb
  have mb := List.all_eq_true.1 m3 b hb
  unfold mayB at mb
  rw [Bool.and_eq_true, Bool.and_eq_true] at mb
  refine ⟨⟨t1, (hok.2 b hb).1⟩, fb.2.1, t2, fun n hn => ?_⟩
  have fn := fb.2.2.2 n hn
  have mn := List.all_eq_true.1 mb.2.2 n hn
  unfold mayN at mn
  rw [Bool.and_eq_true] at mn
  refine ⟨⟨t3 n hn, fun x hx => ?_⟩, fn.2.2.1, fn.2.2.2.1, fn.2.2.2.2.1, fn.2.2.2.2.2⟩
  have fx := fn.2.1 x hx
  exact ⟨fx.1.1, fx.2, fx.1.2.2, mayI_zero (List.all_eq_true.1 mn.1 x hx)⟩

theorem read_enc {c : Cd} (h : checkC c = 0) (hok : OkC c) : readC (encC c) = some c := by
  have := codC.to c [] (fc_of h hok)
  rw [List.append_nil] at this
  unfold readC
  rw [this]
  dsimp only
  rw [if_pos ⟨rfl, h⟩]
theorem read_more {c : Cd} (h : checkC c = 0) (hok : OkC c) (x : UInt8) : readC (encC c ++ [x]) = none := by
  have := codC.to c [x] (fc_of h hok)
  unfold readC
  rw [this]
  dsimp only
  rw [if_neg]
  rintro ⟨q, _⟩
  cases q
theorem enc_read {b : List UInt8} {c : Cd} (h : readC b = some c) : encC c = b ∧ checkC c = 0 ∧ FC c := by
  unfold readC at h
  split at h
  · next hc =>
    obtain ⟨h1, h2⟩ := hc
    have e := Option.some.inj h
    rw [e] at h2
    have hF : codR (b, false) = (c, ([], false)) := by rw [← e, ← h1]
    obtain ⟨k1, k2⟩ := codC.back _ _ _ hF
    rw [List.append_nil] at k1
    exact ⟨k1.symm, h2, k2⟩
  · cases h
theorem enc_inj {c d : Cd} (h : checkC c = 0) (hok : OkC c) (h' : checkC d = 0) (hok' : OkC d) (e : encC c = encC d) : c = d := by
  have h1 := read_enc h hok
  rw [e, read_enc h' hok'] at h1
  exact (Option.some.inj h1).symm
theorem read_cut {c : Cd} (h : checkC c = 0) (hok : OkC c) (k : Nat) (hk : k < (encC c).length) : readC ((encC c).take k) = none := by
  cases hr : readC ((encC c).take k) with
  | none => rfl
  | some d =>
    exfalso
    obtain ⟨e1, e2, e3⟩ := enc_read hr
    have h1 := codC.to d ((encC c).drop k) e3
    rw [e1, List.take_append_drop] at h1
    have h2 := codC.to c [] (fc_of h hok)
    rw [List.append_nil, h1] at h2
    have : (encC c).drop k = [] := congrArg (fun q => q.2.1) h2
    have := congrArg List.length this
    rw [List.length_drop, List.length_nil] at this
    omega
end Go.Proofs.Ytefklmckkigllaa
