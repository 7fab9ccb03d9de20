/- Joined texts of the proof. -/
import Derived.Test.YtjgggmjjikopeaaGreatDoorJ25
import Derived.Deep.RegionWith

/- What is printed is read: the tokens of a text that is put together of words, numbers, signs and blanks. -/
namespace Go.Proofs.YtjgggmjjikopeaaGreatDoor
set_option linter.unusedVariables false

/-- Tokens of these kinds and bytes, wherever they stand. -/
def Are (l : List Tk) (ks : List (Nat × List UInt8)) : Prop := l.map (fun t => (t.kind, t.text)) = ks ∧ ∀ t ∈ l, t.bits = valB t.kind t.text
theorem Are.nil {l : List Tk} (h : Are l []) : l = [] := List.map_eq_nil_iff.1 h.1
theorem Are.cons {l : List Tk} {k : Nat × List UInt8} {ks : List (Nat × List UInt8)} (h : Are l (k :: ks)) : ∃ t r, l = t :: r ∧ t.kind = k.1 ∧ t.text = k.2 ∧ t.bits = valB k.1 k.2 ∧ Are r ks := by
  obtain ⟨h1, h2⟩ := h
  cases l with
  | nil => cases h1
  | cons t r =>
    simp only [List.map_cons, List.cons.injEq] at h1
    obtain ⟨rfl, h1⟩ := h1
    exact ⟨t, r, rfl, rfl, rfl, h2 t List.mem_cons_self, h1, fun u hu => h2 u (List.mem_cons_of_mem _ hu)⟩
theorem Are.app {l : List Tk} {a b : List (Nat × List UInt8)} (h : Are l (a ++ b)) : ∃ x y, l = x ++ y ∧ Are x a ∧ Are y b := by
  induction a generalizing l with
  | nil => exact ⟨[], l, rfl, ⟨rfl, fun t ht => by cases ht⟩, h⟩
  | cons k a ih =>
    obtain ⟨t, r, rfl, h1, h2, h3, h4⟩ := Are.cons (by simpa using h)
    obtain ⟨x, y, rfl, hx, hy⟩ := ih h4
    refine ⟨t :: x, y, rfl, ⟨by rw [List.map_cons, hx.1, h1, h2], fun u hu => ?_⟩, hy⟩
    rcases List.mem_cons.1 hu with rfl | hu
    · rw [h3, h1, h2]
    · exact hx.2 u hu

/-- A text's tokens. -/
inductive LexTo : List UInt8 → List (Nat × List UInt8) → Prop
  | nil : LexTo [] []
  | bl {c : UInt8} {r : List UInt8} {ks : List (Nat × List UInt8)} (h : isBl c.toNat = true) (k : LexTo r ks) : LexTo (c :: r) ks
  | tok {K : Nat} {x r : List UInt8} {ks : List (Nat × List UInt8)} (hx : x ≠ []) (he : endOf (x ++ r) = (K, x.length)) (h0 : errOf K x = 0) (hc : clB K r = false) (k : LexTo r ks) : LexTo (x ++ r) ((K, x) :: ks)

theorem sign_heads : ∀ y ∈ signs, isBl (y.headD 0).toNat = false ∧ (y.headD 0).toNat ≠ 35 ∧ isLet (y.headD 0).toNat = false ∧ isDig (y.headD 0).toNat = false := by decide
theorem sign_two : ∀ y ∈ signs, y.length = 2 → y.getD 1 0 = 61 ∨ y.getD 1 0 = 38 ∨ y.getD 1 0 = 124 := by decide
theorem head_ok {c : UInt8} {q x : List UInt8} {K n : Nat} (he : endOf (c :: q) = (K, n)) (h0 : errOf K (c :: x) = 0) : isBl c.toNat = false ∧ c.toNat ≠ 35 := by
  rw [endOf] at he
  by_cases h1 : isLet c.toNat = true
  · simp only [isLet, Bool.or_eq_true, Bool.and_eq_true, decide_eq_true_eq] at h1
    simp only [isBl, Bool.or_eq_false_iff, decide_eq_false_iff_not]
    omega
  · by_cases h2 : isDig c.toNat = true
    · simp only [isDig, Bool.and_eq_true, decide_eq_true_eq] at h2
      simp only [isBl, Bool.or_eq_false_iff, decide_eq_false_iff_not]
      omega
    · rw [if_neg h1, if_neg h2] at he
      obtain rfl : 4 = K := congrArg Prod.fst he
      have h3 : isSg (c :: x) = true := by
        cases h : isSg (c :: x) with
        | true => rfl
        | false => unfold errOf at h0; rw [h] at h0; simp at h0
      have := sign_heads _ (by simpa [isSg] using h3)
      exact ⟨this.1, this.2.1⟩

theorem lexA_to {s : List UInt8} {ks : List (Nat × List UInt8)} (h : LexTo s ks) : ∀ (l : List UInt8) (p f : Nat), l.drop p = s → p ≤ l.length → s.length < f → ∃ ts, lexA l f (p + skN s) = ⟨ts, 0, 0⟩ ∧ Are ts ks := by
  induction h with
  | nil =>
    intro l p f hd hp hf
    have := congrArg List.length hd
    rw [List.length_drop] at this
    refine ⟨[], lexA_end l f _ ?_, rfl, fun t ht => by cases ht⟩
    show l.length ≤ p + 0
    simp at this
    omega
  | @bl c r ks h k ih =>
    intro l p f hd hp hf
    have hl := congrArg List.length hd
    rw [List.length_drop, List.length_cons] at hl
    have hd2 : l.drop (p + 1) = r := by rw [← List.drop_drop, hd]; rfl
    have e : skN (c :: r) = skN r + 1 := by simp only [skN, skF, h, if_true]
    obtain ⟨ts, h1, h2⟩ := ih l (p + 1) f hd2 (by omega) (by simp at hf; omega)
    exact ⟨ts, by rw [e, show p + (skN r + 1) = p + 1 + skN r by omega]; exact h1, h2⟩
  | @tok K x r ks hx he h0 hc k ih =>
    intro l p f hd hp hf
    have hl := congrArg List.length hd
    rw [List.length_drop, List.length_append] at hl
    have hxl : 0 < x.length := List.length_pos_iff.2 hx
    have e : skN (x ++ r) = 0 := by
      cases x with
      | nil => exact absurd rfl hx
      | cons c x =>
        obtain ⟨a, b⟩ := head_ok he h0
        simp [skN, skF, a, b]
    obtain ⟨f, rfl⟩ : ∃ g, f = g + 1 := ⟨f - 1, by omega⟩
    have hd2 : l.drop (p + x.length) = r := by rw [← List.drop_drop, hd]; simp
    obtain ⟨ts, h1, h2⟩ := ih l (p + x.length) f hd2 (by omega) (by simp at hf; omega)
    rw [e, Nat.add_zero]
    have ht : (l.drop p).take x.length = x := by rw [hd]; simp
    have hs := lexA_step l f p (by omega) (by rw [hd, he]; simpa using h0) (by rw [hd, he]; dsimp only; rw [hd2]; exact hc)
    rw [hd, he] at hs
    dsimp only at hs
    rw [hd2, h1, show List.take x.length (x ++ r) = x by simp] at hs
    refine ⟨tkOf K x p :: ts, hs, ?_, fun t ht => ?_⟩
    · rw [List.map_cons, h2.1]; rfl
    · rcases List.mem_cons.1 ht with rfl | ht
      · rfl
      · exact h2.2 t ht
theorem lexS_to {s : List UInt8} {ks : List (Nat × List UInt8)} (h : LexTo s ks) (hs : s.length ≤ 16384) : (lexS s).err = 0 ∧ Are (lexS s).toks ks := by
  obtain ⟨ts, h1, h2⟩ := lexA_to h s 0 (s.length + 1) rfl (Nat.zero_le _) (Nat.lt_succ_self _)
  rw [Nat.zero_add] at h1
  unfold lexS
  rw [if_neg (by omega), h1]
  exact ⟨rfl, h2⟩

/-- What may stand behind a word or a number. -/
def Sp (r : List UInt8) : Prop := ∃ c q, r = c :: q ∧ (c = 32 ∨ c = 40 ∨ c = 41 ∨ c = 59)
theorem Sp.mk32 (q : List UInt8) : Sp (32 :: q) := ⟨_, _, rfl, .inl rfl⟩
theorem Sp.mk41 (q : List UInt8) : Sp (41 :: q) := ⟨_, _, rfl, .inr (.inr (.inl rfl))⟩
theorem Sp.mk59 (q : List UInt8) : Sp (59 :: q) := ⟨_, _, rfl, .inr (.inr (.inr rfl))⟩
theorem Sp.out {r : List UInt8} (h : Sp r) : ∃ c q, r = c :: q ∧ isLet c.toNat = false ∧ isDig c.toNat = false ∧ c ≠ 46 := by
  obtain ⟨c, q, rfl, h⟩ := h
  exact ⟨c, q, rfl, by rcases h with rfl | rfl | rfl | rfl <;> decide⟩
theorem Sp.clings {r : List UInt8} (h : Sp r) (K : Nat) : clB K r = false := by
  obtain ⟨c, q, rfl, h1, h2, h3⟩ := h.out
  unfold clB
  have : decide (c.toNat = 46) = false := decide_eq_false fun e => h3 (UInt8.toNat_inj.1 e)
  simp [h1, this]
theorem LexTo.bls {b r : List UInt8} {ks : List (Nat × List UInt8)} (hb : ∀ c ∈ b, c = 32) (k : LexTo r ks) : LexTo (b ++ r) ks := by
  induction b with
  | nil => exact k
  | cons c b ih => exact .bl (by rw [hb c List.mem_cons_self]; decide) (ih fun d hd => hb d (List.mem_cons_of_mem _ hd))

theorem alN_app {x r : List UInt8} (hx : allAl x = true) (hr : Sp r) : alN (x ++ r) = x.length := by
  induction x with
  | nil =>
    obtain ⟨c, q, rfl, h1, h2, h3⟩ := hr.out
    simp [alN, h1, h2]
  | cons c x ih =>
    unfold allAl at hx ih
    rw [List.all_cons, Bool.and_eq_true] at hx
    rw [List.cons_append, alN, if_pos hx.1, ih hx.2]
    rfl
theorem LexTo.word {x r : List UInt8} {ks : List (Nat × List UInt8)} (h24 : x.length ≤ 24) (hl : isLet (x.headD 0).toNat = true) (ha : allAl x = true) (hr : Sp r) (k : LexTo r ks) : LexTo (x ++ r) ((1, x) :: ks) := by
  cases x with
  | nil => exact absurd hl (by decide)
  | cons c x =>
    have hl : isLet c.toNat = true := hl
    have ha' : allAl x = true := by unfold allAl at ha ⊢; rw [List.all_cons, Bool.and_eq_true] at ha; exact ha.2
    refine .tok (by simp) ?_ ?_ (hr.clings 1) k
    · rw [List.cons_append, endOf, if_pos hl, alN_app ha' hr]; rfl
    · unfold errOf; rw [if_pos rfl, if_neg (by omega)]
theorem LexTo.name {x r : List UInt8} {ks : List (Nat × List UInt8)} (h : isNm x = true) (hr : Sp r) (k : LexTo r ks) : LexTo (x ++ r) ((1, x) :: ks) := by
  cases x with
  | nil => exact absurd h (by decide)
  | cons c x =>
    rw [isNm_eq] at h
    simp only [Bool.and_eq_true, decide_eq_true_eq] at h
    exact .word h.1.1.1 h.1.1.2 h.2 hr k

/-- No sign goes on here. -/
def nq (r : List UInt8) : Prop := ∀ d q, r = d :: q → d ≠ 61 ∧ d ≠ 38 ∧ d ≠ 124
theorem Sp.nq {r : List UInt8} (h : Sp r) : nq r := by
  obtain ⟨c, q, rfl, h⟩ := h
  intro d p e
  cases e
  rcases h with rfl | rfl | rfl | rfl <;> decide
theorem nq.of {d : UInt8} {q : List UInt8} (h : d ≠ 61 ∧ d ≠ 38 ∧ d ≠ 124) : nq (d :: q) := by
  intro d' q' e
  cases e
  exact h
theorem LexTo.sign1 {c : UInt8} {r : List UInt8} {ks : List (Nat × List UInt8)} (hs : [c] ∈ signs) (hr : nq r) (k : LexTo r ks) : LexTo (c :: r) ((4, [c]) :: ks) := by
  obtain ⟨h1, h2, h3, h4⟩ := sign_heads _ hs
  have e : sgN c r = 0 := by
    cases r with
    | nil => rfl
    | cons d q =>
      rw [sgN, if_neg]
      intro h
      have := sign_two [c, d] (by simpa [isSg] using h) rfl
      have k := hr d q rfl
      simp at this
      rcases this with h | h | h
      · exact k.1 h
      · exact k.2.1 h
      · exact k.2.2 h
  refine LexTo.tok (K := 4) (x := [c]) (r := r) (by simp) ?_ ?_ (by simp [clB]) k
  · show endOf (c :: r) = (4, 1)
    have h3 : isLet c.toNat = false := h3
    have h4 : isDig c.toNat = false := h4
    rw [endOf, h3, h4, e]
    rfl
  · have : isSg [c] = true := by simpa [isSg] using hs
    simp [errOf, this]
theorem LexTo.sign2 {c d : UInt8} {r : List UInt8} {ks : List (Nat × List UInt8)} (hs : [c, d] ∈ signs) (k : LexTo r ks) : LexTo (c :: d :: r) ((4, [c, d]) :: ks) := by
  obtain ⟨h1, h2, h3, h4⟩ := sign_heads _ hs
  have h5 : isSg [c, d] = true := by simpa [isSg] using hs
  refine LexTo.tok (K := 4) (x := [c, d]) (r := r) (by simp) ?_ ?_ (by simp [clB]) k
  · show endOf (c :: d :: r) = (4, 2)
    have h3 : isLet c.toNat = false := h3
    have h4 : isDig c.toNat = false := h4
    rw [endOf, h3, h4, sgN, h5]
    rfl
  · simp [errOf, h5]

theorem isPt_no {c : UInt8} {r : List UInt8} (h : c ≠ 46) : isPt (c :: r) = false := by
  cases r with
  | nil => rfl
  | cons d q => simp [isPt, h]
theorem dig_no {c : UInt8} (h : isDig c.toNat = true) : c ≠ 46 := by rintro rfl; exact absurd h (by decide)
theorem nmN_dig {x r : List UInt8} (hx : ∀ c ∈ x, isDig c.toNat = true) (hr : Sp r) : nmN (x ++ r) = (2, x.length) := by
  induction x with
  | nil =>
    obtain ⟨c, q, rfl, h1, h2, h3⟩ := hr.out
    rw [List.nil_append, nmN, isPt_no h3, h2]
    rfl
  | cons c x ih =>
    have hc := hx c List.mem_cons_self
    rw [List.cons_append, nmN, isPt_no (dig_no hc), hc, ih fun d hd => hx d (List.mem_cons_of_mem _ hd)]
    rfl
theorem dgN_app {x r : List UInt8} (hx : ∀ c ∈ x, isDig c.toNat = true) (hr : Sp r) : dgN (x ++ r) = x.length := by
  induction x with
  | nil =>
    obtain ⟨c, q, rfl, h1, h2, h3⟩ := hr.out
    rw [List.nil_append, dgN, h2]
    rfl
  | cons c x ih =>
    have hc := hx c List.mem_cons_self
    rw [List.cons_append, dgN, hc, ih fun d hd => hx d (List.mem_cons_of_mem _ hd)]
    rfl
theorem nmN_ptS {x y r : List UInt8} (hx : ∀ c ∈ x, isDig c.toNat = true) (hy : ∀ c ∈ y, isDig c.toNat = true) (hn : y ≠ []) (hr : Sp r) : nmN (x ++ (46 :: y ++ r)) = (3, x.length + (y.length + 1)) := by
  induction x with
  | nil =>
    cases y with
    | nil => exact absurd rfl hn
    | cons d y =>
      rw [List.nil_append, List.cons_append, nmN, dgN_app hy hr, show isPt (46 :: (d :: y ++ r)) = true by simp [isPt, hy d List.mem_cons_self]]
      simp
  | cons c x ih =>
    have hc := hx c List.mem_cons_self
    rw [List.cons_append, nmN, isPt_no (dig_no hc), hc, ih fun d hd => hx d (List.mem_cons_of_mem _ hd)]
    simp
    omega
theorem good_dig {x : List UInt8} (h : GoodDec x) : ∀ c ∈ x, isDig c.toNat = true := by
  intro c hc
  obtain ⟨j, hj, rfl⟩ := List.getElem_of_mem hc
  have := h.2.2.1 j hj
  rw [List.getD_eq_getElem?_getD, List.getElem?_eq_getElem hj] at this
  simp only [isDig, Bool.and_eq_true, decide_eq_true_eq]
  exact this
theorem let_dig {c : UInt8} (h : isDig c.toNat = true) : isLet c.toNat = false := by
  simp only [isDig, Bool.and_eq_true, decide_eq_true_eq] at h
  simp only [isLet, Bool.or_eq_false_iff, Bool.and_eq_false_iff, decide_eq_false_iff_not]
  omega
theorem LexTo.num2 {x r : List UInt8} {ks : List (Nat × List UInt8)} (h : GoodDec x) (hr : Sp r) (k : LexTo r ks) : LexTo (x ++ r) ((2, x) :: ks) := by
  have hd := good_dig h
  cases x with
  | nil => exact absurd h.1 (by simp)
  | cons c x =>
    have hc := hd c List.mem_cons_self
    refine .tok (by simp) ?_ ?_ (hr.clings 2) k
    · rw [List.cons_append, endOf, let_dig hc, hc, nmN_dig (fun d e => hd d (List.mem_cons_of_mem _ e)) hr]; rfl
    · unfold errOf; rw [if_neg (by decide), if_pos rfl, if_pos h]
theorem LexTo.num3 {x r : List UInt8} {ks : List (Nat × List UInt8)} (h : IsLit x) (hr : Sp r) (k : LexTo r ks) : LexTo (x ++ r) ((3, x) :: ks) := by
  have hs := lit_split h
  have ha := good_dig h.2.2.2.1
  have hb : ∀ c ∈ behindOf x, isDig c.toNat = true := fun c hc => good_dig h.2.2.2.2 c (List.mem_cons_of_mem _ hc)
  have hn : behindOf x ≠ [] := fun e => by have := h.1; rw [e] at this; simp at this
  have h1 := h.2.2.2.1.1
  refine .tok (by rintro rfl; simp [aheadOf] at h1) ?_ ?_ (hr.clings 3) k
  · rw [hs]
    generalize aheadOf x = a at *
    generalize behindOf x = b at *
    cases a with
    | nil => simp at h1
    | cons c a =>
      have hc := ha c List.mem_cons_self
      rw [List.append_assoc, List.cons_append, endOf, let_dig hc, hc]
      have := nmN_ptS (fun d e => ha d (List.mem_cons_of_mem _ e)) hb hn hr
      rw [this]
      simp
  · unfold errOf; rw [if_neg (by decide), if_neg (by decide), if_pos rfl, if_pos h]

end Go.Proofs.YtjgggmjjikopeaaGreatDoor

/- 'Same' is equality. -/
namespace Go.Proofs.YtjgggmjjikopeaaGreatDoor
set_option linter.unusedVariables false

mutual
theorem samX_eq : ∀ (x y : Ex), samX x y = true ↔ x = y
  | .mk op t b nm ks, .mk op' t' b' nm' ks' => by
    rw [samX]
    simp only [Bool.and_eq_true, decide_eq_true_eq, samL_eq ks ks', Ex.mk.injEq]
    constructor
    · rintro ⟨h1, ⟨h2, h3⟩, h4, h5⟩; exact ⟨h1, h2, h3, h4, h5⟩
    · rintro ⟨h1, h2, h3, h4, h5⟩; exact ⟨h1, ⟨h2, h3⟩, h4, h5⟩
theorem samL_eq : ∀ (x y : List Ex), samL x y = true ↔ x = y
  | [], [] => by simp [samL]
  | [], y :: s => by simp [samL]
  | x :: r, [] => by simp [samL]
  | x :: r, y :: s => by
    rw [samL, Bool.and_eq_true, samX_eq x y, samL_eq r s]
    simp
end
mutual
theorem samS_eq : ∀ (x y : St), samS x y = true ↔ x = y
  | .mk k nm e b c, .mk k' nm' e' b' c' => by
    rw [samS]
    simp only [Bool.and_eq_true, decide_eq_true_eq, samX_eq, samSL_eq b b', samSL_eq c c', St.mk.injEq]
theorem samSL_eq : ∀ (x y : List St), samSL x y = true ↔ x = y
  | [], [] => by simp [samSL]
  | [], y :: s => by simp [samSL]
  | x :: r, [] => by simp [samSL]
  | x :: r, y :: s => by
    rw [samSL, Bool.and_eq_true, samS_eq x y, samSL_eq r s]
    simp
end
theorem eqL_eq {α : Type} (f : α → α → Bool) (hf : ∀ x y, f x y = true ↔ x = y) : ∀ (x y : List α), eqL f x y = true ↔ x = y
  | [], [] => by simp [eqL]
  | [], y :: s => by simp [eqL]
  | x :: r, [] => by simp [eqL]
  | x :: r, y :: s => by
    rw [eqL, Bool.and_eq_true, hf x y, eqL_eq f hf r s]
    simp
theorem samV_eq (x y : Vr) : samV x y = true ↔ x = y := by
  obtain ⟨a, b, c⟩ := x
  obtain ⟨a', b', c'⟩ := y
  unfold samV
  simp
theorem samN_eq (x y : List UInt8) : samN x y = true ↔ x = y := by
  unfold samN
  simp
theorem samT_eq (x y : Th) : samT x y = true ↔ x = y := by
  obtain ⟨a, b, c⟩ := x
  obtain ⟨a', b', c'⟩ := y
  unfold samT
  simp only [Bool.and_eq_true, decide_eq_true_eq, eqL_eq samV samV_eq, samSL_eq, Th.mk.injEq]
theorem samP_eq (x y : Pg) : samP x y = true ↔ x = y := by
  obtain ⟨a, b, c⟩ := x
  obtain ⟨a', b', c'⟩ := y
  unfold samP
  simp only [Bool.and_eq_true, eqL_eq samV samV_eq, eqL_eq samN samN_eq, eqL_eq samT samT_eq, Pg.mk.injEq]
end Go.Proofs.YtjgggmjjikopeaaGreatDoor

/- Whether statements may be printed. -/
namespace Go.Proofs.YtjgggmjjikopeaaGreatDoor
open Go.RowKit
set_option linter.unusedVariables false

mutual
/-- Whether a statement may be printed. -/
def mayS (d : Nat) : St → Bool
  | .mk k nm e body els =>
    if k = 1 then isNm nm && (mayE 32 e && (body.isEmpty && els.isEmpty))
    else if k = 2 ∨ k = 3 then isNm nm && (samX e noE && (body.isEmpty && els.isEmpty))
    else if k = 4 then decide (nm = []) && (mayE 32 e && (body.isEmpty && els.isEmpty))
    else if k = 5 then decide (nm = []) && (mayE 32 e && (mayB (d + 1) body && mayB (d + 1) els))
    else if k = 6 then decide (nm = []) && (mayE 32 e && (mayB (d + 1) body && els.isEmpty))
    else if k = 7 then decide (nm = []) && (samX e noE && (body.isEmpty && els.isEmpty))
    else false
def mayB (d : Nat) : List St → Bool
  | [] => true
  | s :: r => decide (d ≤ 32) && (mayS d s && mayB d r)
end

theorem mayB_iff (d : Nat) : ∀ ss : List St, mayB d ss = true ↔ (ss = [] ∨ d ≤ 32) ∧ ∀ s ∈ ss, mayS d s = true
  | [] => by simp [mayB]
  | s :: r => by
    rw [mayB, Bool.and_eq_true, Bool.and_eq_true, mayB_iff d r]
    simp only [decide_eq_true_eq, List.mem_cons, forall_eq_or_imp]
    constructor
    · rintro ⟨h1, h2, h3, h4⟩; exact ⟨.inr h1, h2, h4⟩
    · rintro ⟨h1, h2, h3⟩
      have : d ≤ 32 := by
        rcases h1 with h1 | h1
        · cases h1
        · exact h1
      exact ⟨this, h2, .inr this, h3⟩

set_option maxRecDepth 100000 in
set_option maxHeartbeats 1600000 in
theorem noBlocks_any (k : Int) (nm : ByteArray) (op t b : Nat) (enm : ByteArray) (es : Value) (a1 a2 : Option Addr) (n1 n2 c1 c2 : Nat) (w : World) :
    Calls Tryz.prog 178 #[.agg (st9 k nm (ex5 op t b enm es) (.slice a1 n1 c1) (.slice a2 n2 c2)).toArray] w fun r w' => r = .returned (.bool (decide (n1 = 0) && decide (n2 = 0))) ∧ Below w.heap.size w w' := by
  go_enter Tryz.func178, Tryz.ntmps178
  go_wp2_with (first
    | ((with_reducible show wpList _ _ _ _ _ _); refine wpList_box_at rfl 51 (.tmp 0) rfl (st9 k nm (ex5 op t b enm es) (.slice a1 n1 c1) (.slice a2 n2 c2)) rfl ?_; intro w1 hA1 hb1 hs1; clear hs1; refine Hid.out ?_))
  refine hidU ?_
  obtain ⟨-, -, -, -, -, -, -, q7, q8⟩ := st_cells hA1
  clear hA1
  by_cases h1 : n1 = 0
  · subst h1
    by_cases h2 : n2 = 0
    · subst h2
      go_wp2
      go_ret
      exact ⟨rfl, hb1⟩
    · have e2 : ((n2 : Int) == 0) = false := by rw [beq_eq_false_iff_ne]; omega
      have d2 : decide (n2 = 0) = false := decide_eq_false h2
      clear h2
      go_wp2
      go_ret
      exact ⟨rfl, hb1⟩
  · have e1 : ((n1 : Int) == 0) = false := by rw [beq_eq_false_iff_ne]; omega
    have d1 : decide (n1 = 0) = false := decide_eq_false h1
    clear h1
    go_wp2
    go_ret
    exact ⟨by rw [d1]; rfl, hb1⟩

set_option maxRecDepth 100000 in
set_option maxHeartbeats 1600000 in
theorem noExpr_any (B : Nat) (e : ET) (w : World) (hin : e.In B w) (hBw : B ≤ w.heap.size) :
    Calls Tryz.prog 179 #[.agg e.cells.toArray] w fun r w' => r = .returned (.bool (samX e.ex noE)) ∧ Below w.heap.size w w' := by
  have hS := sameExpr_any B (SizeOf.sizeOf e + 1) e (by omega) (.mk 0 0 0 ⟨#[]⟩ none 0 [])
  have hz : ∀ w, (ET.mk 0 0 0 ⟨#[]⟩ none 0 []).In B w := fun w => by
    unfold ET.In
    exact ⟨by decide, by decide, by decide, by simp, by simp, .inl rfl⟩
  have hx : samX e.ex (ET.mk 0 0 0 ⟨#[]⟩ none 0 []).ex = samX e.ex noE := rfl
  rw [hx] at hS
  obtain ⟨R, hR⟩ : ∃ R, Hid (R = samX e.ex noE) := ⟨_, (rfl : samX e.ex noE = _)⟩
  rw [← hR.out] at hS ⊢
  have HI : Hid (e.In B w) := hin
  clear hin hx
  go_enter Tryz.func179, Tryz.ntmps179
  go_wp2_with (first
    | ((with_reducible show wpList _ _ _ _ _ _); refine wpList_box_at rfl 43 (.tmp 0) rfl e.cells rfl ?_; intro w1 hA1 hb1 hs1; clear hs1)
    | ((with_reducible show wpList _ _ _ _ _ _); refine wpList_load_at (P := Tryz.prog) rfl 43 (.tmp 1) rfl w.heap.size rfl 43 e.cells hA1 _ Tryz.underlying43 rfl (by rw [ET.cells_len]; exact i29) ?_))
  refine (hS w1 (HI.out.old (Old.of_below hb1 hBw)) (hz w1) (by have := hb1.size; omega)).mono ?_
  rintro r w2 ⟨rfl, hb2⟩
  go_wp2
  go_ret
  exact ⟨rfl, hb1.trans (hb2.mono hb1.size)⟩

end Go.Proofs.YtjgggmjjikopeaaGreatDoor

/- Whether statements may be printed. -/
namespace Go.Proofs.YtjgggmjjikopeaaGreatDoor
open Go.RowKit
set_option linter.unusedVariables false

/-- What asking whether a statement may be printed does. -/
def MayW (B : Nat) (s : ST) : Prop := ∀ (d : Nat) (w : World), d ≤ 32 → s.In B w → B ≤ w.heap.size → Tab w → gB ≤ w.heap.size →
    Calls Tryz.prog 151 #[.agg s.cells.toArray, .int .i64 (d : Int)] w fun r w' => r = .returned (.bool (mayS d s.st)) ∧ Below w.heap.size w w'

set_option maxRecDepth 100000 in
set_option maxHeartbeats 3200000 in
theorem mayBlock_of (B : Nat) (ss : List ST) (hS : ∀ s ∈ ss, MayW B s) (d : Nat) (hd : d ≤ 33) (a : Option Addr) (c : Nat) (w : World) (hr : RowS B w a c ss) (hBw : B ≤ w.heap.size) (hT : Tab w) (h16 : gB ≤ w.heap.size) :
    Calls Tryz.prog 114 #[.slice a ss.length c, .int .i64 (d : Int)] w fun r w' => r = .returned (.bool (mayB d (ss.map ST.st))) ∧ Below w.heap.size w w' := by
  obtain ⟨R, hR⟩ : ∃ R, Hid (R = mayB d (ss.map ST.st)) := ⟨_, (rfl : _ = mayB _ _)⟩
  rw [← hR.out]
  obtain ⟨n, hn⟩ : ∃ n, Hid (n = ss.length) := ⟨_, (rfl : ss.length = _)⟩
  have hl := hr.1
  have hk := hr.2.1
  rw [← hn.out] at hl hk ⊢
  have HS : Hid (∀ s ∈ ss, MayW B s) := hS
  have HR : Hid (RowS B w a c ss) := hr
  clear hS hr
  go_enter Tryz.func114, Tryz.ntmps114
  go_wp2_with fail
  go_loopw [9] (fun j wr => ∃ i : Nat, j = .int .i64 (i : Int) ∧ i ≤ n ∧ Hid (Below w.heap.size w wr ∧ (i = 0 ∨ d ≤ 32) ∧ ∀ s ∈ (ss.take i).map ST.st, mayS d s = true)) (fun j _ => n - (intOf j).toNat)
  case atStart => exact ⟨0, rfl, by omega, Below.refl _ _, .inl rfl, by simp⟩
  case round =>
    obtain ⟨i, rfl, hi, hX⟩ := hrel
    by_cases hc : i < n
    · obtain ⟨s, hs⟩ : ∃ k, ss[i]? = some k := ⟨ss[i]'(by rw [← hn.out]; exact hc), by rw [List.getElem?_eq_getElem]⟩
      obtain ⟨hbw, hd0, hall⟩ := hX.out
      have hold : Old B w wr := Old.of_below hbw hBw
      obtain ⟨g1, o1, rfl, hg1, hr1, hs1⟩ := (HR.out.old hold).at i s hs
      have HK : Hid (s.In B wr ∧ B ≤ wr.heap.size ∧ Tab wr ∧ gB ≤ wr.heap.size) := ⟨hs1, by have := hbw.size; omega, hT.below hbw h16, by have := hbw.size; omega⟩
      clear hX hs1 hold HR
      go_wp2_with (first
        | ((with_reducible show wpList _ _ _ _ _ _); refine wpList_load_mid (P := Tryz.prog) rfl 51 (.tmp 11) rfl g1 (o1 + i * 9) (by first | rfl | (simp; done)) s.cells _ hr1 Tryz.underlying51 rfl (by rw [ST.cells_len]; exact i38) ?_)
        | ((with_reducible show wpList _ _ _ _ _ _); refine wpList_alloc_at rfl 51 rfl _ 9 z38 ?_; intro w2 hA2 hb2 hs2)
        | ((with_reducible show wpList _ _ _ _ _ _); refine wpList_store_at (P := Tryz.prog) rfl 51 (.tmp 6) (.tmp 12) rfl wr.heap.size s.cells rfl rfl 51 _ hA2 (by rw [ST.cells_len]; exact i38) (by rw [ST.cells_len]; rfl) s.one ?_; intro w3 hA3 hb3 hs3; refine Hid.out ?_))
      refine hidU ?_
      have hB3 : Below wr.heap.size wr w3 := hb3.below hb2 (Nat.le_refl _) (by omega)
      have hw3 : Below w.heap.size w w3 := hbw.trans (hB3.mono hbw.size)
      obtain ⟨p1, p2, p3, p4⟩ := HK.out
      have hI : d ≤ 32 → Calls Tryz.prog 151 #[.agg s.cells.toArray, .int .i64 (d : Int)] w3 fun r w' => r = .returned (.bool (mayS d s.st)) ∧ Below w3.heap.size w3 w' := fun h => HS.out s (List.mem_of_getElem? hs) d w3 h (p1.old (Old.of_below hB3 p2)) (by have := hB3.size; omega) (p3.below hB3 p4) (by have := hB3.size; omega)
      have hA3' := hA3
      clear hb3 hb2 hA2 hr1 hs2 hs3 p1 p2 p3 p4 HK HS hA3 hB3 hbw
      by_cases hd32 : d ≤ 32
      · have hI := hI hd32
        have hgt : ¬ (32 : Int) < (d : Int) := by omega
        cases s with
        | mk k nm e a1 c1 body a2 c2 els =>
        cases e with
        | mk op t b enm ea ec eks =>
        obtain ⟨n1, hn1⟩ : ∃ n, Hid (n = body.length) := ⟨_, (rfl : body.length = _)⟩
        obtain ⟨n2, hn2⟩ : ∃ n, Hid (n = els.length) := ⟨_, (rfl : els.length = _)⟩
        obtain ⟨n3, hn3⟩ : ∃ n, Hid (n = eks.length) := ⟨_, (rfl : eks.length = _)⟩
        have hA4 : At 51 w3 wr.heap.size (st9 k nm (ex5 op t b enm (.slice ea n3 ec)) (.slice a1 n1 c1) (.slice a2 n2 c2)) := by rw [hn1.out, hn2.out, hn3.out]; exact hA3'
        have hI' : Calls Tryz.prog 151 #[.agg (st9 k nm (ex5 op t b enm (.slice ea n3 ec)) (.slice a1 n1 c1) (.slice a2 n2 c2)).toArray, .int .i64 (d : Int)] w3 fun r w' => r = .returned (.bool (mayS d (ST.mk k nm (ET.mk op t b enm ea ec eks) a1 c1 body a2 c2 els).st)) ∧ Below w3.heap.size w3 w' := by rw [hn1.out, hn2.out, hn3.out]; exact hI
        obtain ⟨q0, q1, q2, q3, q4, q5, q6, q7, q8⟩ := st_cells hA4
        obtain ⟨M, hM⟩ : ∃ M, Hid (M = mayS d (ST.mk k nm (ET.mk op t b enm ea ec eks) a1 c1 body a2 c2 els).st) := ⟨_, (rfl : _ = mayS _ _)⟩
        rw [← hM.out] at hI'
        clear hI hA3' hA4
        go_wp2_with fail
        refine hI'.mono ?_
        rintro r w6 ⟨rfl, hb6⟩
        have hw6 : Below w.heap.size w w6 := hw3.trans (hb6.mono hw3.size)
        clear hI' hb6 hw3 q0 q1 q2 q3 q4 q5 q6 q7 q8
        cases M with
        | false =>
          have hRf : R = false := by
            rw [hR.out, Bool.eq_false_iff]
            intro h
            have := ((mayB_iff d _).1 h).2 _ (List.mem_map.2 ⟨_, List.mem_of_getElem? hs, rfl⟩)
            rw [← hM.out] at this
            cases this
          go_wp2
          go_ret
          exact ⟨by rw [hRf]; rfl, hw6⟩
        | true =>
          go_wp2
          go_roundw
          case rel =>
            refine ⟨i + 1, by go_num, by omega, hw6, .inr hd32, fun x hx => ?_⟩
            rw [List.take_add_one, hs, List.map_append, List.mem_append] at hx
            rcases hx with hx | hx
            · exact hall x hx
            · simp at hx; rw [hx]; exact hM.out.symm
          case measure => simp [intOf]; omega
      · have hgt : (32 : Int) < (d : Int) := by omega
        have hRf : R = false := by
          rw [hR.out, Bool.eq_false_iff]
          intro h
          rcases ((mayB_iff d _).1 h).1 with h | h
          · have := congrArg List.length h
            rw [List.length_map, ← hn.out] at this
            simp at this
            omega
          · exact hd32 h
        clear hI hA3'
        go_wp2_with fail
        go_ret
        exact ⟨by rw [hRf]; rfl, hw3⟩
    · have hin : i = n := by omega
      obtain ⟨hbw, hd0, hall⟩ := hX.out
      have hRt : R = true := by
        rw [hR.out, mayB_iff]
        refine ⟨?_, fun s hs => hall s (by rw [hin, hn.out, List.take_length]; exact hs)⟩
        rcases hd0 with h | h
        · left
          apply List.length_eq_zero_iff.1
          rw [List.length_map, ← hn.out]
          omega
        · exact .inr h
      clear hX hall hin HR HS
      go_wp2
      go_ret
      exact ⟨by rw [hRt]; rfl, hbw⟩

end Go.Proofs.YtjgggmjjikopeaaGreatDoor

/- Whether a statement may be printed: all kinds. -/
namespace Go.Proofs.YtjgggmjjikopeaaGreatDoor
open Go.RowKit
set_option linter.unusedVariables false

section
variable (B : Nat) (w : World) (k : Int) (nm : ByteArray) (op t b : Nat) (enm : ByteArray) (ea a1 a2 : Option Addr) (n1 n2 n3 c1 c2 ec : Nat) (d : Nat) (R : Bool)

set_option maxRecDepth 100000 in
set_option maxHeartbeats 3200000 in
theorem mayS_1 (p1 p2 p3 : Bool) (hp1 : AskB w 77 #[.string nm] p1) (hp2 : AskB w 105 #[.agg (ex5 op t b enm (.slice ea n3 ec)).toArray, .int .i64 32] p2) (hp3 : AskB w 178 #[.agg (st9 1 nm (ex5 op t b enm (.slice ea n3 ec)) (.slice a1 n1 c1) (.slice a2 n2 c2)).toArray] p3) (hd : d ≤ 32) :
    Calls Tryz.prog 151 #[.agg (st9 1 nm (ex5 op t b enm (.slice ea n3 ec)) (.slice a1 n1 c1) (.slice a2 n2 c2)).toArray, .int .i64 (d : Int)] w fun r w' => r = .returned (.bool (p1 && (p2 && p3))) ∧ Below w.heap.size w w' := by
  obtain ⟨R, hR⟩ : ∃ R, Hid (R = (p1 && (p2 && p3))) := ⟨_, (rfl : _ = (p1 && (p2 && p3)))⟩
  rw [← hR.out]
  have Hp1 : Hid (AskB w 77 #[.string nm] p1) := hp1
  clear hp1
  have Hp2 : Hid (AskB w 105 #[.agg (ex5 op t b enm (.slice ea n3 ec)).toArray, .int .i64 32] p2) := hp2
  clear hp2
  have Hp3 : Hid (AskB w 178 #[.agg (st9 1 nm (ex5 op t b enm (.slice ea n3 ec)) (.slice a1 n1 c1) (.slice a2 n2 c2)).toArray] p3) := hp3
  clear hp3
  go_enter Tryz.func151, Tryz.ntmps151
  go_wp2_with (first
    | ((with_reducible show wpList _ _ _ _ _ _); refine wpList_box_at rfl 51 (.tmp 0) rfl (st9 1 nm (ex5 op t b enm (.slice ea n3 ec)) (.slice a1 n1 c1) (.slice a2 n2 c2)) rfl ?_; intro w1 hA hbb hs1; clear hs1; refine Hid.out ?_))
  refine hidU ?_
  obtain ⟨q0, q1, q2, q3, q4, q5, q6, q7, q8⟩ := st_cells hA
  go_wp2_with fail
  refine (Hp1.out _ hbb).mono ?_
  rintro r w2 ⟨rfl, hb2⟩
  have hA2 := hA.below hb2
  have hbb2 := hbb.trans (hb2.mono hbb.size)
  clear hA hbb hb2 q0 q1 q2 q3 q4 q5 q6 q7 q8
  obtain ⟨q0, q1, q2, q3, q4, q5, q6, q7, q8⟩ := st_cells hA2
  have hA := hA2
  have hbb := hbb2
  clear hA2 hbb2
  cases p1 with
  | false =>
    go_wp2_with fail
    go_ret
    exact ⟨by rw [hR.out]; rfl, hbb⟩
  | true =>
    go_wp2_with fail
    refine (Hp2.out _ hbb).mono ?_
    rintro r w3 ⟨rfl, hb3⟩
    have hA3 := hA.below hb3
    have hbb3 := hbb.trans (hb3.mono hbb.size)
    clear hA hbb hb3 q0 q1 q2 q3 q4 q5 q6 q7 q8
    obtain ⟨q0, q1, q2, q3, q4, q5, q6, q7, q8⟩ := st_cells hA3
    have hA := hA3
    have hbb := hbb3
    clear hA3 hbb3
    cases p2 with
    | false =>
      go_wp2_with fail
      go_ret
      exact ⟨by rw [hR.out]; rfl, hbb⟩
    | true =>
      go_wp2_with fail
      refine (Hp3.out _ hbb).mono ?_
      rintro r w4 ⟨rfl, hb4⟩
      have hA4 := hA.below hb4
      have hbb4 := hbb.trans (hb4.mono hbb.size)
      clear hA hbb hb4 q0 q1 q2 q3 q4 q5 q6 q7 q8
      obtain ⟨q0, q1, q2, q3, q4, q5, q6, q7, q8⟩ := st_cells hA4
      have hA := hA4
      have hbb := hbb4
      clear hA4 hbb4
      go_wp2_with fail
      go_ret
      exact ⟨by rw [hR.out]; rfl, hbb⟩

set_option maxRecDepth 100000 in
set_option maxHeartbeats 3200000 in
theorem mayS_2 (p1 p2 p3 : Bool) (hp1 : AskB w 77 #[.string nm] p1) (hp2 : AskB w 179 #[.agg (ex5 op t b enm (.slice ea n3 ec)).toArray] p2) (hp3 : AskB w 178 #[.agg (st9 2 nm (ex5 op t b enm (.slice ea n3 ec)) (.slice a1 n1 c1) (.slice a2 n2 c2)).toArray] p3) (hd : d ≤ 32) :
    Calls Tryz.prog 151 #[.agg (st9 2 nm (ex5 op t b enm (.slice ea n3 ec)) (.slice a1 n1 c1) (.slice a2 n2 c2)).toArray, .int .i64 (d : Int)] w fun r w' => r = .returned (.bool (p1 && (p2 && p3))) ∧ Below w.heap.size w w' := by
  obtain ⟨R, hR⟩ : ∃ R, Hid (R = (p1 && (p2 && p3))) := ⟨_, (rfl : _ = (p1 && (p2 && p3)))⟩
  rw [← hR.out]
  have Hp1 : Hid (AskB w 77 #[.string nm] p1) := hp1
  clear hp1
  have Hp2 : Hid (AskB w 179 #[.agg (ex5 op t b enm (.slice ea n3 ec)).toArray] p2) := hp2
  clear hp2
  have Hp3 : Hid (AskB w 178 #[.agg (st9 2 nm (ex5 op t b enm (.slice ea n3 ec)) (.slice a1 n1 c1) (.slice a2 n2 c2)).toArray] p3) := hp3
  clear hp3
  go_enter Tryz.func151, Tryz.ntmps151
  go_wp2_with (first
    | ((with_reducible show wpList _ _ _ _ _ _); refine wpList_box_at rfl 51 (.tmp 0) rfl (st9 2 nm (ex5 op t b enm (.slice ea n3 ec)) (.slice a1 n1 c1) (.slice a2 n2 c2)) rfl ?_; intro w1 hA hbb hs1; clear hs1; refine Hid.out ?_))
  refine hidU ?_
  obtain ⟨q0, q1, q2, q3, q4, q5, q6, q7, q8⟩ := st_cells hA
  go_wp2_with fail
  refine (Hp1.out _ hbb).mono ?_
  rintro r w2 ⟨rfl, hb2⟩
  have hA2 := hA.below hb2
  have hbb2 := hbb.trans (hb2.mono hbb.size)
  clear hA hbb hb2 q0 q1 q2 q3 q4 q5 q6 q7 q8
  obtain ⟨q0, q1, q2, q3, q4, q5, q6, q7, q8⟩ := st_cells hA2
  have hA := hA2
  have hbb := hbb2
  clear hA2 hbb2
  cases p1 with
  | false =>
    go_wp2_with fail
    go_ret
    exact ⟨by rw [hR.out]; rfl, hbb⟩
  | true =>
    go_wp2_with fail
    refine (Hp2.out _ hbb).mono ?_
    rintro r w3 ⟨rfl, hb3⟩
    have hA3 := hA.below hb3
    have hbb3 := hbb.trans (hb3.mono hbb.size)
    clear hA hbb hb3 q0 q1 q2 q3 q4 q5 q6 q7 q8
    obtain ⟨q0, q1, q2, q3, q4, q5, q6, q7, q8⟩ := st_cells hA3
    have hA := hA3
    have hbb := hbb3
    clear hA3 hbb3
    cases p2 with
    | false =>
      go_wp2_with fail
      go_ret
      exact ⟨by rw [hR.out]; rfl, hbb⟩
    | true =>
      go_wp2_with fail
      refine (Hp3.out _ hbb).mono ?_
      rintro r w4 ⟨rfl, hb4⟩
      have hA4 := hA.below hb4
      have hbb4 := hbb.trans (hb4.mono hbb.size)
      clear hA hbb hb4 q0 q1 q2 q3 q4 q5 q6 q7 q8
      obtain ⟨q0, q1, q2, q3, q4, q5, q6, q7, q8⟩ := st_cells hA4
      have hA := hA4
      have hbb := hbb4
      clear hA4 hbb4
      go_wp2_with fail
      go_ret
      exact ⟨by rw [hR.out]; rfl, hbb⟩

set_option maxRecDepth 100000 in
set_option maxHeartbeats 3200000 in
theorem mayS_3 (p1 p2 p3 : Bool) (hp1 : AskB w 77 #[.string nm] p1) (hp2 : AskB w 179 #[.agg (ex5 op t b enm (.slice ea n3 ec)).toArray] p2) (hp3 : AskB w 178 #[.agg (st9 3 nm (ex5 op t b enm (.slice ea n3 ec)) (.slice a1 n1 c1) (.slice a2 n2 c2)).toArray] p3) (hd : d ≤ 32) :
    Calls Tryz.prog 151 #[.agg (st9 3 nm (ex5 op t b enm (.slice ea n3 ec)) (.slice a1 n1 c1) (.slice a2 n2 c2)).toArray, .int .i64 (d : Int)] w fun r w' => r = .returned (.bool (p1 && (p2 && p3))) ∧ Below w.heap.size w w' := by
  obtain ⟨R, hR⟩ : ∃ R, Hid (R = (p1 && (p2 && p3))) := ⟨_, (rfl : _ = (p1 && (p2 && p3)))⟩
  rw [← hR.out]
  have Hp1 : Hid (AskB w 77 #[.string nm] p1) := hp1
  clear hp1
  have Hp2 : Hid (AskB w 179 #[.agg (ex5 op t b enm (.slice ea n3 ec)).toArray] p2) := hp2
  clear hp2
  have Hp3 : Hid (AskB w 178 #[.agg (st9 3 nm (ex5 op t b enm (.slice ea n3 ec)) (.slice a1 n1 c1) (.slice a2 n2 c2)).toArray] p3) := hp3
  clear hp3
  go_enter Tryz.func151, Tryz.ntmps151
  go_wp2_with (first
    | ((with_reducible show wpList _ _ _ _ _ _); refine wpList_box_at rfl 51 (.tmp 0) rfl (st9 3 nm (ex5 op t b enm (.slice ea n3 ec)) (.slice a1 n1 c1) (.slice a2 n2 c2)) rfl ?_; intro w1 hA hbb hs1; clear hs1; refine Hid.out ?_))
  refine hidU ?_
  obtain ⟨q0, q1, q2, q3, q4, q5, q6, q7, q8⟩ := st_cells hA
  go_wp2_with fail
  refine (Hp1.out _ hbb).mono ?_
  rintro r w2 ⟨rfl, hb2⟩
  have hA2 := hA.below hb2
  have hbb2 := hbb.trans (hb2.mono hbb.size)
  clear hA hbb hb2 q0 q1 q2 q3 q4 q5 q6 q7 q8
  obtain ⟨q0, q1, q2, q3, q4, q5, q6, q7, q8⟩ := st_cells hA2
  have hA := hA2
  have hbb := hbb2
  clear hA2 hbb2
  cases p1 with
  | false =>
    go_wp2_with fail
    go_ret
    exact ⟨by rw [hR.out]; rfl, hbb⟩
  | true =>
    go_wp2_with fail
    refine (Hp2.out _ hbb).mono ?_
    rintro r w3 ⟨rfl, hb3⟩
    have hA3 := hA.below hb3
    have hbb3 := hbb.trans (hb3.mono hbb.size)
    clear hA hbb hb3 q0 q1 q2 q3 q4 q5 q6 q7 q8
    obtain ⟨q0, q1, q2, q3, q4, q5, q6, q7, q8⟩ := st_cells hA3
    have hA := hA3
    have hbb := hbb3
    clear hA3 hbb3
    cases p2 with
    | false =>
      go_wp2_with fail
      go_ret
      exact ⟨by rw [hR.out]; rfl, hbb⟩
    | true =>
      go_wp2_with fail
      refine (Hp3.out _ hbb).mono ?_
      rintro r w4 ⟨rfl, hb4⟩
      have hA4 := hA.below hb4
      have hbb4 := hbb.trans (hb4.mono hbb.size)
      clear hA hbb hb4 q0 q1 q2 q3 q4 q5 q6 q7 q8
      obtain ⟨q0, q1, q2, q3, q4, q5, q6, q7, q8⟩ := st_cells hA4
      have hA := hA4
      have hbb := hbb4
      clear hA4 hbb4
      go_wp2_with fail
      go_ret
      exact ⟨by rw [hR.out]; rfl, hbb⟩

set_option maxRecDepth 100000 in
set_option maxHeartbeats 3200000 in
theorem mayS_4 (p1 p2 p3 : Bool) (hp1 : nm.toList.isEmpty = p1) (hp2 : AskB w 105 #[.agg (ex5 op t b enm (.slice ea n3 ec)).toArray, .int .i64 32] p2) (hp3 : AskB w 178 #[.agg (st9 4 nm (ex5 op t b enm (.slice ea n3 ec)) (.slice a1 n1 c1) (.slice a2 n2 c2)).toArray] p3) (hd : d ≤ 32) :
    Calls Tryz.prog 151 #[.agg (st9 4 nm (ex5 op t b enm (.slice ea n3 ec)) (.slice a1 n1 c1) (.slice a2 n2 c2)).toArray, .int .i64 (d : Int)] w fun r w' => r = .returned (.bool (p1 && (p2 && p3))) ∧ Below w.heap.size w w' := by
  obtain ⟨R, hR⟩ : ∃ R, Hid (R = (p1 && (p2 && p3))) := ⟨_, (rfl : _ = (p1 && (p2 && p3)))⟩
  rw [← hR.out]
  have Hp2 : Hid (AskB w 105 #[.agg (ex5 op t b enm (.slice ea n3 ec)).toArray, .int .i64 32] p2) := hp2
  clear hp2
  have Hp3 : Hid (AskB w 178 #[.agg (st9 4 nm (ex5 op t b enm (.slice ea n3 ec)) (.slice a1 n1 c1) (.slice a2 n2 c2)).toArray] p3) := hp3
  clear hp3
  go_enter Tryz.func151, Tryz.ntmps151
  go_wp2_with (first
    | ((with_reducible show wpList _ _ _ _ _ _); refine wpList_box_at rfl 51 (.tmp 0) rfl (st9 4 nm (ex5 op t b enm (.slice ea n3 ec)) (.slice a1 n1 c1) (.slice a2 n2 c2)) rfl ?_; intro w1 hA hbb hs1; clear hs1; refine Hid.out ?_))
  refine hidU ?_
  obtain ⟨q0, q1, q2, q3, q4, q5, q6, q7, q8⟩ := st_cells hA
  cases p1 with
  | false =>
    go_wp2_with fail
    go_ret
    exact ⟨by rw [hR.out]; rfl, hbb⟩
  | true =>
    go_wp2_with fail
    refine (Hp2.out _ hbb).mono ?_
    rintro r w2 ⟨rfl, hb2⟩
    have hA2 := hA.below hb2
    have hbb2 := hbb.trans (hb2.mono hbb.size)
    clear hA hbb hb2 q0 q1 q2 q3 q4 q5 q6 q7 q8
    obtain ⟨q0, q1, q2, q3, q4, q5, q6, q7, q8⟩ := st_cells hA2
    have hA := hA2
    have hbb := hbb2
    clear hA2 hbb2
    cases p2 with
    | false =>
      go_wp2_with fail
      go_ret
      exact ⟨by rw [hR.out]; rfl, hbb⟩
    | true =>
      go_wp2_with fail
      refine (Hp3.out _ hbb).mono ?_
      rintro r w3 ⟨rfl, hb3⟩
      have hA3 := hA.below hb3
      have hbb3 := hbb.trans (hb3.mono hbb.size)
      clear hA hbb hb3 q0 q1 q2 q3 q4 q5 q6 q7 q8
      obtain ⟨q0, q1, q2, q3, q4, q5, q6, q7, q8⟩ := st_cells hA3
      have hA := hA3
      have hbb := hbb3
      clear hA3 hbb3
      go_wp2_with fail
      go_ret
      exact ⟨by rw [hR.out]; rfl, hbb⟩

set_option maxRecDepth 100000 in
set_option maxHeartbeats 3200000 in
theorem mayS_5 (p1 p2 p3 p4 : Bool) (hp1 : nm.toList.isEmpty = p1) (hp2 : AskB w 105 #[.agg (ex5 op t b enm (.slice ea n3 ec)).toArray, .int .i64 32] p2) (hp3 : AskB w 114 #[.slice a1 n1 c1, .int .i64 ((d : Int) + 1)] p3) (hp4 : AskB w 114 #[.slice a2 n2 c2, .int .i64 ((d : Int) + 1)] p4) (hd : d ≤ 32) :
    Calls Tryz.prog 151 #[.agg (st9 5 nm (ex5 op t b enm (.slice ea n3 ec)) (.slice a1 n1 c1) (.slice a2 n2 c2)).toArray, .int .i64 (d : Int)] w fun r w' => r = .returned (.bool (p1 && (p2 && (p3 && p4)))) ∧ Below w.heap.size w w' := by
  obtain ⟨R, hR⟩ : ∃ R, Hid (R = (p1 && (p2 && (p3 && p4)))) := ⟨_, (rfl : _ = (p1 && (p2 && (p3 && p4))))⟩
  rw [← hR.out]
  have Hp2 : Hid (AskB w 105 #[.agg (ex5 op t b enm (.slice ea n3 ec)).toArray, .int .i64 32] p2) := hp2
  clear hp2
  have Hp3 : Hid (AskB w 114 #[.slice a1 n1 c1, .int .i64 ((d : Int) + 1)] p3) := hp3
  clear hp3
  have Hp4 : Hid (AskB w 114 #[.slice a2 n2 c2, .int .i64 ((d : Int) + 1)] p4) := hp4
  clear hp4
  go_enter Tryz.func151, Tryz.ntmps151
  go_wp2_with (first
    | ((with_reducible show wpList _ _ _ _ _ _); refine wpList_box_at rfl 51 (.tmp 0) rfl (st9 5 nm (ex5 op t b enm (.slice ea n3 ec)) (.slice a1 n1 c1) (.slice a2 n2 c2)) rfl ?_; intro w1 hA hbb hs1; clear hs1; refine Hid.out ?_))
  refine hidU ?_
  obtain ⟨q0, q1, q2, q3, q4, q5, q6, q7, q8⟩ := st_cells hA
  cases p1 with
  | false =>
    go_wp2_with fail
    go_ret
    exact ⟨by rw [hR.out]; rfl, hbb⟩
  | true =>
    go_wp2_with fail
    refine (Hp2.out _ hbb).mono ?_
    rintro r w2 ⟨rfl, hb2⟩
    have hA2 := hA.below hb2
    have hbb2 := hbb.trans (hb2.mono hbb.size)
    clear hA hbb hb2 q0 q1 q2 q3 q4 q5 q6 q7 q8
    obtain ⟨q0, q1, q2, q3, q4, q5, q6, q7, q8⟩ := st_cells hA2
    have hA := hA2
    have hbb := hbb2
    clear hA2 hbb2
    cases p2 with
    | false =>
      go_wp2_with fail
      go_ret
      exact ⟨by rw [hR.out]; rfl, hbb⟩
    | true =>
      go_wp2_with fail
      refine (Hp3.out _ hbb).mono ?_
      rintro r w3 ⟨rfl, hb3⟩
      have hA3 := hA.below hb3
      have hbb3 := hbb.trans (hb3.mono hbb.size)
      clear hA hbb hb3 q0 q1 q2 q3 q4 q5 q6 q7 q8
      obtain ⟨q0, q1, q2, q3, q4, q5, q6, q7, q8⟩ := st_cells hA3
      have hA := hA3
      have hbb := hbb3
      clear hA3 hbb3
      cases p3 with
      | false =>
        go_wp2_with fail
        go_ret
        exact ⟨by rw [hR.out]; rfl, hbb⟩
      | true =>
        go_wp2_with fail
        refine (Hp4.out _ hbb).mono ?_
        rintro r w4 ⟨rfl, hb4⟩
        have hA4 := hA.below hb4
        have hbb4 := hbb.trans (hb4.mono hbb.size)
        clear hA hbb hb4 q0 q1 q2 q3 q4 q5 q6 q7 q8
        obtain ⟨q0, q1, q2, q3, q4, q5, q6, q7, q8⟩ := st_cells hA4
        have hA := hA4
        have hbb := hbb4
        clear hA4 hbb4
        go_wp2_with fail
        go_ret
        exact ⟨by rw [hR.out]; rfl, hbb⟩

set_option maxRecDepth 100000 in
set_option maxHeartbeats 3200000 in
theorem mayS_6 (p1 p2 p3 p4 : Bool) (hp1 : nm.toList.isEmpty = p1) (hp2 : AskB w 105 #[.agg (ex5 op t b enm (.slice ea n3 ec)).toArray, .int .i64 32] p2) (hp3 : AskB w 114 #[.slice a1 n1 c1, .int .i64 ((d : Int) + 1)] p3) (hp4 : decide (n2 = 0) = p4) (hd : d ≤ 32) :
    Calls Tryz.prog 151 #[.agg (st9 6 nm (ex5 op t b enm (.slice ea n3 ec)) (.slice a1 n1 c1) (.slice a2 n2 c2)).toArray, .int .i64 (d : Int)] w fun r w' => r = .returned (.bool (p1 && (p2 && (p3 && p4)))) ∧ Below w.heap.size w w' := by
  obtain ⟨R, hR⟩ : ∃ R, Hid (R = (p1 && (p2 && (p3 && p4)))) := ⟨_, (rfl : _ = (p1 && (p2 && (p3 && p4))))⟩
  rw [← hR.out]
  have Hp2 : Hid (AskB w 105 #[.agg (ex5 op t b enm (.slice ea n3 ec)).toArray, .int .i64 32] p2) := hp2
  clear hp2
  have Hp3 : Hid (AskB w 114 #[.slice a1 n1 c1, .int .i64 ((d : Int) + 1)] p3) := hp3
  clear hp3
  go_enter Tryz.func151, Tryz.ntmps151
  go_wp2_with (first
    | ((with_reducible show wpList _ _ _ _ _ _); refine wpList_box_at rfl 51 (.tmp 0) rfl (st9 6 nm (ex5 op t b enm (.slice ea n3 ec)) (.slice a1 n1 c1) (.slice a2 n2 c2)) rfl ?_; intro w1 hA hbb hs1; clear hs1; refine Hid.out ?_))
  refine hidU ?_
  obtain ⟨q0, q1, q2, q3, q4, q5, q6, q7, q8⟩ := st_cells hA
  cases p1 with
  | false =>
    go_wp2_with fail
    go_ret
    exact ⟨by rw [hR.out]; rfl, hbb⟩
  | true =>
    go_wp2_with fail
    refine (Hp2.out _ hbb).mono ?_
    rintro r w2 ⟨rfl, hb2⟩
    have hA2 := hA.below hb2
    have hbb2 := hbb.trans (hb2.mono hbb.size)
    clear hA hbb hb2 q0 q1 q2 q3 q4 q5 q6 q7 q8
    obtain ⟨q0, q1, q2, q3, q4, q5, q6, q7, q8⟩ := st_cells hA2
    have hA := hA2
    have hbb := hbb2
    clear hA2 hbb2
    cases p2 with
    | false =>
      go_wp2_with fail
      go_ret
      exact ⟨by rw [hR.out]; rfl, hbb⟩
    | true =>
      go_wp2_with fail
      refine (Hp3.out _ hbb).mono ?_
      rintro r w3 ⟨rfl, hb3⟩
      have hA3 := hA.below hb3
      have hbb3 := hbb.trans (hb3.mono hbb.size)
      clear hA hbb hb3 q0 q1 q2 q3 q4 q5 q6 q7 q8
      obtain ⟨q0, q1, q2, q3, q4, q5, q6, q7, q8⟩ := st_cells hA3
      have hA := hA3
      have hbb := hbb3
      clear hA3 hbb3
      cases p3 with
      | false =>
        go_wp2_with fail
        go_ret
        exact ⟨by rw [hR.out]; rfl, hbb⟩
      | true =>
        by_cases hn2 : n2 = 0
        · subst hn2
          have : p4 = true := by rw [← hp4]; rfl
          subst this
          clear hp4
          go_wp2_with fail
          go_ret
          exact ⟨by rw [hR.out]; rfl, hbb⟩
        · have e2 : ((n2 : Int) == 0) = false := by rw [beq_eq_false_iff_ne]; omega
          have : p4 = false := by rw [← hp4]; exact decide_eq_false hn2
          subst this
          clear hp4 hn2
          go_wp2_with fail
          go_ret
          exact ⟨by rw [hR.out]; rfl, hbb⟩

set_option maxRecDepth 100000 in
set_option maxHeartbeats 3200000 in
theorem mayS_7 (p1 p2 p3 : Bool) (hp1 : nm.toList.isEmpty = p1) (hp2 : AskB w 179 #[.agg (ex5 op t b enm (.slice ea n3 ec)).toArray] p2) (hp3 : AskB w 178 #[.agg (st9 7 nm (ex5 op t b enm (.slice ea n3 ec)) (.slice a1 n1 c1) (.slice a2 n2 c2)).toArray] p3) (hd : d ≤ 32) :
    Calls Tryz.prog 151 #[.agg (st9 7 nm (ex5 op t b enm (.slice ea n3 ec)) (.slice a1 n1 c1) (.slice a2 n2 c2)).toArray, .int .i64 (d : Int)] w fun r w' => r = .returned (.bool (p1 && (p2 && p3))) ∧ Below w.heap.size w w' := by
  obtain ⟨R, hR⟩ : ∃ R, Hid (R = (p1 && (p2 && p3))) := ⟨_, (rfl : _ = (p1 && (p2 && p3)))⟩
  rw [← hR.out]
  have Hp2 : Hid (AskB w 179 #[.agg (ex5 op t b enm (.slice ea n3 ec)).toArray] p2) := hp2
  clear hp2
  have Hp3 : Hid (AskB w 178 #[.agg (st9 7 nm (ex5 op t b enm (.slice ea n3 ec)) (.slice a1 n1 c1) (.slice a2 n2 c2)).toArray] p3) := hp3
  clear hp3
  go_enter Tryz.func151, Tryz.ntmps151
  go_wp2_with (first
    | ((with_reducible show wpList _ _ _ _ _ _); refine wpList_box_at rfl 51 (.tmp 0) rfl (st9 7 nm (ex5 op t b enm (.slice ea n3 ec)) (.slice a1 n1 c1) (.slice a2 n2 c2)) rfl ?_; intro w1 hA hbb hs1; clear hs1; refine Hid.out ?_))
  refine hidU ?_
  obtain ⟨q0, q1, q2, q3, q4, q5, q6, q7, q8⟩ := st_cells hA
  cases p1 with
  | false =>
    go_wp2_with fail
    go_ret
    exact ⟨by rw [hR.out]; rfl, hbb⟩
  | true =>
    go_wp2_with fail
    refine (Hp2.out _ hbb).mono ?_
    rintro r w2 ⟨rfl, hb2⟩
    have hA2 := hA.below hb2
    have hbb2 := hbb.trans (hb2.mono hbb.size)
    clear hA hbb hb2 q0 q1 q2 q3 q4 q5 q6 q7 q8
    obtain ⟨q0, q1, q2, q3, q4, q5, q6, q7, q8⟩ := st_cells hA2
    have hA := hA2
    have hbb := hbb2
    clear hA2 hbb2
    cases p2 with
    | false =>
      go_wp2_with fail
      go_ret
      exact ⟨by rw [hR.out]; rfl, hbb⟩
    | true =>
      go_wp2_with fail
      refine (Hp3.out _ hbb).mono ?_
      rintro r w3 ⟨rfl, hb3⟩
      have hA3 := hA.below hb3
      have hbb3 := hbb.trans (hb3.mono hbb.size)
      clear hA hbb hb3 q0 q1 q2 q3 q4 q5 q6 q7 q8
      obtain ⟨q0, q1, q2, q3, q4, q5, q6, q7, q8⟩ := st_cells hA3
      have hA := hA3
      have hbb := hbb3
      clear hA3 hbb3
      go_wp2_with fail
      go_ret
      exact ⟨by rw [hR.out]; rfl, hbb⟩

set_option maxRecDepth 100000 in
set_option maxHeartbeats 3200000 in
theorem mayS_no (h : ¬ (1 ≤ k ∧ k ≤ 7)) :
    Calls Tryz.prog 151 #[.agg (st9 k nm (ex5 op t b enm (.slice ea n3 ec)) (.slice a1 n1 c1) (.slice a2 n2 c2)).toArray, .int .i64 (d : Int)] w fun r w' => r = .returned (.bool false) ∧ Below w.heap.size w w' := by
  have e1 : (k == 1) = false := by rw [beq_eq_false_iff_ne]; omega
  have e2 : (k == 2) = false := by rw [beq_eq_false_iff_ne]; omega
  have e3 : (k == 3) = false := by rw [beq_eq_false_iff_ne]; omega
  have e4 : (k == 4) = false := by rw [beq_eq_false_iff_ne]; omega
  have e5 : (k == 5) = false := by rw [beq_eq_false_iff_ne]; omega
  have e6 : (k == 6) = false := by rw [beq_eq_false_iff_ne]; omega
  have e7 : (k == 7) = false := by rw [beq_eq_false_iff_ne]; omega
  clear h
  go_enter Tryz.func151, Tryz.ntmps151
  go_wp2_with (first
    | ((with_reducible show wpList _ _ _ _ _ _); refine wpList_box_at rfl 51 (.tmp 0) rfl (st9 k nm (ex5 op t b enm (.slice ea n3 ec)) (.slice a1 n1 c1) (.slice a2 n2 c2)) rfl ?_; intro w1 hA hbb hs1; clear hs1; refine Hid.out ?_))
  refine hidU ?_
  obtain ⟨q0, q1, q2, q3, q4, q5, q6, q7, q8⟩ := st_cells hA
  go_wp2_with fail
  go_ret
  exact ⟨rfl, hbb⟩
end

end Go.Proofs.YtjgggmjjikopeaaGreatDoor

/- Whether a statement may be printed. -/
namespace Go.Proofs.YtjgggmjjikopeaaGreatDoor
open Go.RowKit
set_option linter.unusedVariables false

theorem sts_empty (l : List ST) : (ST.sts l).isEmpty = decide (l.length = 0) := by
  cases l with
  | nil => rfl
  | cons x r => simp [ST.sts]

theorem mayStmt_any (B : Nat) (N : Nat) : ∀ s : ST, SizeOf.sizeOf s < N → MayW B s := by
  induction N with
  | zero => intro s h; omega
  | succ N ih =>
    rintro ⟨k, nm, ⟨op, t, b, enm, ea, ec, eks⟩, a1, c1, body, a2, c2, els⟩ hN d w hd hin hBw hT h16
    have i1 : ∀ s ∈ body, MayW B s := fun s hs => ih s (by have := ST.sz1 (k := k) (nm := nm) (e := .mk op t b enm ea ec eks) (a1 := a1) (a2 := a2) (c1 := c1) (c2 := c2) (els := els) hs; omega)
    have i2 : ∀ s ∈ els, MayW B s := fun s hs => ih s (by have := ST.sz2 (k := k) (nm := nm) (e := .mk op t b enm ea ec eks) (a1 := a1) (a2 := a2) (c1 := c1) (c2 := c2) (body := body) hs; omega)
    unfold ST.In at hin
    obtain ⟨hk, he, hb1, hb2⟩ := hin
    have hsz : ∀ w', Below w.heap.size w w' → B ≤ w'.heap.size ∧ gB ≤ w'.heap.size ∧ Tab w' ∧ Old B w w' := fun w' h => ⟨by have := h.size; omega, by have := h.size; omega, hT.below h h16, Old.of_below h hBw⟩
    have pN : AskB w 77 #[.string nm] (isNm nm.data.toList) := fun w' h => (name_any nm w').mono (by rintro r w2 ⟨rfl, rfl⟩; exact ⟨rfl, Below.refl _ _⟩)
    have pE : AskB w 105 #[.agg (ex5 op t b enm (.slice ea eks.length ec)).toArray, .int .i64 32] (mayE 32 (ET.mk op t b enm ea ec eks).ex) := fun w' h => mayExpr_any 32 (.mk op t b enm ea ec eks) w' B (by decide) (he.old (hsz w' h).2.2.2) (hsz w' h).1 (hsz w' h).2.2.1 (hsz w' h).2.1
    have pX : AskB w 179 #[.agg (ex5 op t b enm (.slice ea eks.length ec)).toArray] (samX (ET.mk op t b enm ea ec eks).ex noE) := fun w' h => noExpr_any B (.mk op t b enm ea ec eks) w' (he.old (hsz w' h).2.2.2) (hsz w' h).1
    have pQ : ∀ k, AskB w 178 #[.agg (st9 k nm (ex5 op t b enm (.slice ea eks.length ec)) (.slice a1 body.length c1) (.slice a2 els.length c2)).toArray] ((ST.sts body).isEmpty && (ST.sts els).isEmpty) := fun k w' h => by
      rw [sts_empty, sts_empty]
      exact noBlocks_any k nm op t b enm _ a1 a2 _ _ c1 c2 w'
    have p1 : AskB w 114 #[.slice a1 body.length c1, .int .i64 ((d : Int) + 1)] (mayB (d + 1) (ST.sts body)) := fun w' h => by
      rw [ST.sts_eq]
      exact mayBlock_of B body i1 (d + 1) (by omega) a1 c1 w' (RowS.old hb1 (hsz w' h).2.2.2) (hsz w' h).1 (hsz w' h).2.2.1 (hsz w' h).2.1
    have p2 : AskB w 114 #[.slice a2 els.length c2, .int .i64 ((d : Int) + 1)] (mayB (d + 1) (ST.sts els)) := fun w' h => by
      rw [ST.sts_eq]
      exact mayBlock_of B els i2 (d + 1) (by omega) a2 c2 w' (RowS.old hb2 (hsz w' h).2.2.2) (hsz w' h).1 (hsz w' h).2.2.1 (hsz w' h).2.1
    show Calls Tryz.prog 151 #[.agg (st9 k nm (ex5 op t b enm (.slice ea eks.length ec)) (.slice a1 body.length c1) (.slice a2 els.length c2)).toArray, .int .i64 (d : Int)] w fun r w' => r = .returned (.bool (mayS d (.mk k nm.data.toList (ET.mk op t b enm ea ec eks).ex (ST.sts body) (ST.sts els)))) ∧ Below w.heap.size w w'
    rw [mayS]
    by_cases h1 : k = 1
    · rw [if_pos h1]; subst h1
      exact mayS_1 w nm op t b enm ea a1 a2 _ _ _ c1 c2 ec d _ _ _ pN pE (pQ 1) hd
    rw [if_neg h1]
    by_cases h2 : k = 2
    · rw [if_pos (.inl h2)]; subst h2
      exact mayS_2 w nm op t b enm ea a1 a2 _ _ _ c1 c2 ec d _ _ _ pN pX (pQ 2) hd
    by_cases h3 : k = 3
    · rw [if_pos (.inr h3)]; subst h3
      exact mayS_3 w nm op t b enm ea a1 a2 _ _ _ c1 c2 ec d _ _ _ pN pX (pQ 3) hd
    rw [if_neg (by rintro (h | h); exact h2 h; exact h3 h)]
    by_cases h4 : k = 4
    · rw [if_pos h4]; subst h4
      exact mayS_4 w nm op t b enm ea a1 a2 _ _ _ c1 c2 ec d _ _ _ (emp nm) pE (pQ 4) hd
    rw [if_neg h4]
    by_cases h5 : k = 5
    · rw [if_pos h5]; subst h5
      exact mayS_5 w nm op t b enm ea a1 a2 _ _ _ c1 c2 ec d _ _ _ _ (emp nm) pE p1 p2 hd
    rw [if_neg h5]
    by_cases h6 : k = 6
    · rw [if_pos h6]; subst h6
      exact mayS_6 w nm op t b enm ea a1 a2 _ _ _ c1 c2 ec d _ _ _ _ (emp nm) pE p1 (sts_empty els).symm hd
    rw [if_neg h6]
    by_cases h7 : k = 7
    · rw [if_pos h7]; subst h7
      exact mayS_7 w nm op t b enm ea a1 a2 _ _ _ c1 c2 ec d _ _ _ (emp nm) pX (pQ 7) hd
    rw [if_neg h7]
    exact mayS_no w k nm op t b enm ea a1 a2 _ _ _ c1 c2 ec d (by omega)

/-- Whether a block may be printed. -/
theorem mayBlock_any (B : Nat) (ss : List ST) (d : Nat) (hd : d ≤ 33) (a : Option Addr) (c : Nat) (w : World) (hr : RowS B w a c ss) (hBw : B ≤ w.heap.size) (hT : Tab w) (h16 : gB ≤ w.heap.size) :
    Calls Tryz.prog 114 #[.slice a ss.length c, .int .i64 (d : Int)] w fun r w' => r = .returned (.bool (mayB d (ss.map ST.st))) ∧ Below w.heap.size w w' :=
  mayBlock_of B ss (fun s _ => mayStmt_any B (SizeOf.sizeOf s + 1) s (by omega)) d hd a c w hr hBw hT h16

end Go.Proofs.YtjgggmjjikopeaaGreatDoor

/- Whether variables, threads, programs may be printed. -/
namespace Go.Proofs.YtjgggmjjikopeaaGreatDoor
open Go.RowKit
set_option linter.unusedVariables false

/-- Whether a variable, a thread, a program may be printed. -/
def mayV (v : Vr) : Bool := valOk v.t v.b && isNm v.nm
def mayT (t : Th) : Bool := isNm t.nm && (t.locals.all mayV && mayB 0 t.body)
def mayP (p : Pg) : Bool := p.shared.all mayV && (p.mutexes.all isNm && p.threads.all mayT)

set_option maxRecDepth 100000 in
set_option maxHeartbeats 1600000 in
theorem mayVar_at (nm : ByteArray) (t b : Nat) (M N : Bool) (L : List UInt8) (w : World) (hT : Tab w) (h16 : gB ≤ w.heap.size)
    (hV : ∀ w, Tab w → gB ≤ w.heap.size → Calls Tryz.prog 112 #[.agg [.int .u8 (t : Int), .int .u64 (b : Int)].toArray] w fun e w' => e = .returned (.tuple #[.string ⟨L.toArray⟩, .bool M]) ∧ Below w.heap.size w w')
    (hN' : ∀ w, Calls Tryz.prog 77 #[.string nm] w fun e w' => e = .returned (.bool N) ∧ w' = w) :
    Calls Tryz.prog 75 #[.agg [.string nm, .int .u8 (t : Int), .int .u64 (b : Int)].toArray] w fun r w' => r = .returned (.bool (M && N)) ∧ Below w.heap.size w w' := by
  go_enter Tryz.func75, Tryz.ntmps75
  go_wp2_with (first
    | ((with_reducible show wpList _ _ _ _ _ _); refine wpList_box_at rfl 48 (.tmp 0) rfl [.string nm, .int .u8 (t : Int), .int .u64 (b : Int)] rfl ?_; intro w1 hA1 hb1 hs1; clear hs1; refine Hid.out ?_))
  refine hidU ?_
  have c1 : w1.cell? ⟨w.heap.size, 1, none⟩ = some (.int .u8 (t : Int)) := by rw [hA1.cell]; rfl
  have c2 : w1.cell? ⟨w.heap.size, 2, none⟩ = some (.int .u64 (b : Int)) := by rw [hA1.cell]; rfl
  go_wp2_with fail
  refine (hV w1 (hT.below hb1 h16) (by have := hb1.size; omega)).mono ?_
  rintro r w2 ⟨rfl, hb2⟩
  have c0 : w2.cell? ⟨w.heap.size, 0, none⟩ = some (.string nm) := by rw [(hA1.below hb2).cell]; rfl
  have hbb := hb1.trans (hb2.mono hb1.size)
  clear hV hb2 hA1 c1 c2 hb1
  cases M with
  | false =>
    go_wp2_with fail
    go_ret
    exact ⟨rfl, hbb⟩
  | true =>
    go_wp2_with fail
    refine (hN' _).mono ?_
    rintro r w' ⟨rfl, rfl⟩
    clear hN'
    go_wp2_with fail
    go_ret
    exact ⟨rfl, hbb⟩

theorem mayVar_any (v : VT) (B : Nat) (w : World) (h : v.In B w) (hT : Tab w) (h16 : gB ≤ w.heap.size) :
    Calls Tryz.prog 75 #[.agg v.cells.toArray] w fun r w' => r = .returned (.bool (mayV v.vr)) ∧ Below w.heap.size w w' :=
  mayVar_at v.nm v.t v.b (valOk v.t v.b) (isNm v.nm.data.toList) (valTx v.t v.b) w hT h16 (fun w hT h16 => valueText_any v.t v.b h.1 h.2 w hT h16) (fun w => name_any v.nm w)

set_option maxRecDepth 100000 in
set_option maxHeartbeats 3200000 in
theorem allV_any (B : Nat) (ks : List VT) (a : Option Addr) (c : Nat) (w : World) (hr : RowV B w a c ks) (hBw : B ≤ w.heap.size) (hT : Tab w) (h16 : gB ≤ w.heap.size) :
    Calls Tryz.prog 74 #[.slice a ks.length c, .func (.func 75) #[] #[]] w fun r w' => r = .returned (.bool ((ks.map VT.vr).all mayV)) ∧ Below w.heap.size w w' := by
  obtain ⟨R, hR⟩ : ∃ R, Hid (R = (ks.map VT.vr).all mayV) := ⟨_, (rfl : _ = (ks.map VT.vr).all mayV)⟩
  rw [← hR.out]
  obtain ⟨n, hn⟩ : ∃ n, Hid (n = ks.length) := ⟨_, (rfl : ks.length = _)⟩
  have hl := hr.1
  have hk := hr.2.1
  rw [← hn.out] at hl hk ⊢
  have HR : Hid (RowV B w a c ks) := hr
  clear hr
  go_enter Tryz.func74, Tryz.ntmps74
  go_wp2_with fail
  go_loopw [9] (fun j wr => ∃ i : Nat, j = .int .i64 (i : Int) ∧ i ≤ n ∧ Hid (Below w.heap.size w wr ∧ ∀ s ∈ (ks.take i).map VT.vr, mayV s = true)) (fun j _ => n - (intOf j).toNat)
  case atStart => exact ⟨0, rfl, by omega, Below.refl _ _, by simp⟩
  case round =>
    obtain ⟨i, rfl, hi, hX⟩ := hrel
    by_cases hc : i < n
    · obtain ⟨s, hs⟩ : ∃ k, ks[i]? = some k := ⟨ks[i]'(by rw [← hn.out]; exact hc), by rw [List.getElem?_eq_getElem]⟩
      obtain ⟨hbw, hall⟩ := hX.out
      have hold : Old B w wr := Old.of_below hbw hBw
      have hBr : B ≤ wr.heap.size := by have := hbw.size; omega
      have h16r : gB ≤ wr.heap.size := by have := hbw.size; omega
      have hTr := hT.below hbw h16
      obtain ⟨g1, o1, rfl, hg1, hr1, hs1⟩ := (HR.out.old hold).at i s hs
      clear hX hold HR
      go_wp2_with (first
        | ((with_reducible show wpList _ _ _ _ _ _); refine wpList_load_mid (P := Tryz.prog) rfl 48 (.tmp 11) rfl g1 (o1 + i * 3) (by first | rfl | (simp; done)) s.cells _ hr1 Tryz.underlying48 rfl i79 ?_)
        | ((with_reducible show wpList _ _ _ _ _ _); refine wpList_alloc_at rfl 48 rfl _ 3 z79 ?_; intro w2 hA2 hb2 hs2)
        | ((with_reducible show wpList _ _ _ _ _ _); refine wpList_store_at (P := Tryz.prog) rfl 48 (.tmp 6) (.tmp 12) rfl wr.heap.size s.cells rfl rfl 48 _ hA2 i79 rfl s.one ?_; intro w3 hA3 hb3 hs3; refine Hid.out ?_))
      refine hidU ?_
      have hB3 : Below wr.heap.size wr w3 := hb3.below hb2 (Nat.le_refl _) (by omega)
      have hw3 : Below w.heap.size w w3 := hbw.trans (hB3.mono hbw.size)
      have hI := mayVar_any s B w3 hs1 (hTr.below hB3 h16r) (by have := hB3.size; omega)
      obtain ⟨M, hM⟩ : ∃ M, Hid (M = mayV (VT.vr s)) := ⟨_, (rfl : _ = mayV (VT.vr s))⟩
      rw [← hM.out] at hI
      have hA3' := hA3
      clear hb3 hb2 hA2 hr1 hs2 hs3 hA3 hB3 hbw hs1
      go_wp2_with (first
        | ((with_reducible show wpList _ _ _ _ _ _); refine wpList_load_at (P := Tryz.prog) rfl 48 (.tmp 6) rfl wr.heap.size rfl 48 s.cells hA3' _ Tryz.underlying48 rfl i79 ?_))
      refine hI.mono ?_
      rintro r w6 ⟨rfl, hb6⟩
      have hw6 : Below w.heap.size w w6 := hw3.trans (hb6.mono hw3.size)
      clear hI hb6 hw3 hA3'
      cases M with
      | false =>
        have hRf : R = false := by
          rw [hR.out, List.all_eq_false]
          exact ⟨VT.vr s, List.mem_map.2 ⟨s, List.mem_of_getElem? hs, rfl⟩, by rw [← hM.out]; simp⟩
        go_wp2
        go_ret
        exact ⟨by rw [hRf]; rfl, hw6⟩
      | true =>
        go_wp2
        go_roundw
        case rel =>
          refine ⟨i + 1, by go_num, by omega, hw6, fun x hx => ?_⟩
          rw [List.take_add_one, hs, List.map_append, List.mem_append] at hx
          rcases hx with hx | hx
          · exact hall x hx
          · simp at hx; rw [hx]; exact hM.out.symm
        case measure => simp [intOf]; omega
    · have hin : i = n := by omega
      obtain ⟨hbw, hall⟩ := hX.out
      have hRt : R = true := by
        rw [hR.out, List.all_eq_true]
        intro s hs
        exact hall s (by rw [hin, hn.out, List.take_length]; exact hs)
      clear hX hall hin HR
      go_wp2
      go_ret
      exact ⟨by rw [hRt]; rfl, hbw⟩

set_option maxRecDepth 100000 in
set_option maxHeartbeats 3200000 in
theorem allN_any (B : Nat) (ks : List ByteArray) (a : Option Addr) (c : Nat) (w : World) (hr : RowN B w a c ks) (hBw : B ≤ w.heap.size) (hT : Tab w) (h16 : gB ≤ w.heap.size) :
    Calls Tryz.prog 76 #[.slice a ks.length c, .func (.func 77) #[] #[]] w fun r w' => r = .returned (.bool ((ks.map (fun s : ByteArray => s.data.toList)).all isNm)) ∧ Below w.heap.size w w' := by
  obtain ⟨R, hR⟩ : ∃ R, Hid (R = (ks.map (fun s : ByteArray => s.data.toList)).all isNm) := ⟨_, (rfl : _ = (ks.map (fun s : ByteArray => s.data.toList)).all isNm)⟩
  rw [← hR.out]
  obtain ⟨n, hn⟩ : ∃ n, Hid (n = ks.length) := ⟨_, (rfl : ks.length = _)⟩
  have hl := hr.1
  have hk := hr.2.1
  rw [← hn.out] at hl hk ⊢
  have HR : Hid (RowN B w a c ks) := hr
  clear hr
  go_enter Tryz.func76, Tryz.ntmps76
  go_wp2_with fail
  go_loopw [9] (fun j wr => ∃ i : Nat, j = .int .i64 (i : Int) ∧ i ≤ n ∧ Hid (Below w.heap.size w wr ∧ ∀ s ∈ (ks.take i).map (fun s : ByteArray => s.data.toList), isNm s = true)) (fun j _ => n - (intOf j).toNat)
  case atStart => exact ⟨0, rfl, by omega, Below.refl _ _, by simp⟩
  case round =>
    obtain ⟨i, rfl, hi, hX⟩ := hrel
    by_cases hc : i < n
    · obtain ⟨s, hs⟩ : ∃ k, ks[i]? = some k := ⟨ks[i]'(by rw [← hn.out]; exact hc), by rw [List.getElem?_eq_getElem]⟩
      obtain ⟨hbw, hall⟩ := hX.out
      have hold : Old B w wr := Old.of_below hbw hBw
      have hBr : B ≤ wr.heap.size := by have := hbw.size; omega
      have h16r : gB ≤ wr.heap.size := by have := hbw.size; omega
      have hTr := hT.below hbw h16
      obtain ⟨g1, o1, rfl, hg1, hr1⟩ := (HR.out.old hold).at i s hs
      have hI : ∀ w, Calls Tryz.prog 77 #[.string s] w fun r w' => r = .returned (.bool (isNm s.data.toList)) ∧ w' = w := fun w => name_any s w
      obtain ⟨M, hM⟩ : ∃ M, Hid (M = isNm s.data.toList) := ⟨_, (rfl : _ = isNm s.data.toList)⟩
      rw [← hM.out] at hI
      clear hX hold HR
      go_wp2_with fail
      refine (hI _).mono ?_
      rintro r w6 ⟨rfl, hq⟩
      have hq' := hq.symm
      subst hq'
      clear hq
      have hw6 := hbw
      clear hI hr1
      cases M with
      | false =>
        have hRf : R = false := by
          rw [hR.out, List.all_eq_false]
          exact ⟨(fun s : ByteArray => s.data.toList) s, List.mem_map.2 ⟨s, List.mem_of_getElem? hs, rfl⟩, by rw [← hM.out]; simp⟩
        go_wp2
        go_ret
        exact ⟨by rw [hRf]; rfl, hw6⟩
      | true =>
        go_wp2
        go_roundw
        case rel =>
          refine ⟨i + 1, by go_num, by omega, hw6, fun x hx => ?_⟩
          rw [List.take_add_one, hs, List.map_append, List.mem_append] at hx
          rcases hx with hx | hx
          · exact hall x hx
          · simp at hx; rw [hx]; exact hM.out.symm
        case measure => simp [intOf]; omega
    · have hin : i = n := by omega
      obtain ⟨hbw, hall⟩ := hX.out
      have hRt : R = true := by
        rw [hR.out, List.all_eq_true]
        intro s hs
        exact hall s (by rw [hin, hn.out, List.take_length]; exact hs)
      clear hX hall hin HR
      go_wp2
      go_ret
      exact ⟨by rw [hRt]; rfl, hbw⟩

set_option maxRecDepth 100000 in
set_option maxHeartbeats 3200000 in
theorem allT_of (B : Nat) (ks : List TT) (a : Option Addr) (c : Nat) (w : World) (hr : RowT B w a c ks) (hBw : B ≤ w.heap.size) (hT : Tab w) (h16 : gB ≤ w.heap.size) (hS : ∀ s ∈ ks, ∀ w, s.In B w → B ≤ w.heap.size → Tab w → gB ≤ w.heap.size → Calls Tryz.prog 79 #[.agg s.cells.toArray] w fun r w' => r = .returned (.bool (mayT s.th)) ∧ Below w.heap.size w w') :
    Calls Tryz.prog 78 #[.slice a ks.length c, .func (.func 79) #[] #[]] w fun r w' => r = .returned (.bool ((ks.map TT.th).all mayT)) ∧ Below w.heap.size w w' := by
  obtain ⟨R, hR⟩ : ∃ R, Hid (R = (ks.map TT.th).all mayT) := ⟨_, (rfl : _ = (ks.map TT.th).all mayT)⟩
  rw [← hR.out]
  obtain ⟨n, hn⟩ : ∃ n, Hid (n = ks.length) := ⟨_, (rfl : ks.length = _)⟩
  have hl := hr.1
  have hk := hr.2.1
  rw [← hn.out] at hl hk ⊢
  have HR : Hid (RowT B w a c ks) := hr
  have HS : Hid (∀ s ∈ ks, ∀ w, s.In B w → B ≤ w.heap.size → Tab w → gB ≤ w.heap.size → Calls Tryz.prog 79 #[.agg s.cells.toArray] w fun r w' => r = .returned (.bool (mayT s.th)) ∧ Below w.heap.size w w') := hS
  clear hS
  clear hr
  go_enter Tryz.func78, Tryz.ntmps78
  go_wp2_with fail
  go_loopw [9] (fun j wr => ∃ i : Nat, j = .int .i64 (i : Int) ∧ i ≤ n ∧ Hid (Below w.heap.size w wr ∧ ∀ s ∈ (ks.take i).map TT.th, mayT s = true)) (fun j _ => n - (intOf j).toNat)
  case atStart => exact ⟨0, rfl, by omega, Below.refl _ _, by simp⟩
  case round =>
    obtain ⟨i, rfl, hi, hX⟩ := hrel
    by_cases hc : i < n
    · obtain ⟨s, hs⟩ : ∃ k, ks[i]? = some k := ⟨ks[i]'(by rw [← hn.out]; exact hc), by rw [List.getElem?_eq_getElem]⟩
      obtain ⟨hbw, hall⟩ := hX.out
      have hold : Old B w wr := Old.of_below hbw hBw
      have hBr : B ≤ wr.heap.size := by have := hbw.size; omega
      have h16r : gB ≤ wr.heap.size := by have := hbw.size; omega
      have hTr := hT.below hbw h16
      obtain ⟨g1, o1, rfl, hg1, hr1, hs1⟩ := (HR.out.old hold).at i s hs
      clear hX hold HR
      go_wp2_with (first
        | ((with_reducible show wpList _ _ _ _ _ _); refine wpList_load_mid (P := Tryz.prog) rfl 53 (.tmp 11) rfl g1 (o1 + i * 3) (by first | rfl | (simp; done)) s.cells _ hr1 Tryz.underlying53 rfl i42 ?_)
        | ((with_reducible show wpList _ _ _ _ _ _); refine wpList_alloc_at rfl 53 rfl _ 3 z42 ?_; intro w2 hA2 hb2 hs2)
        | ((with_reducible show wpList _ _ _ _ _ _); refine wpList_store_at (P := Tryz.prog) rfl 53 (.tmp 6) (.tmp 12) rfl wr.heap.size s.cells rfl rfl 53 _ hA2 i42 rfl s.one ?_; intro w3 hA3 hb3 hs3; refine Hid.out ?_))
      refine hidU ?_
      have hB3 : Below wr.heap.size wr w3 := hb3.below hb2 (Nat.le_refl _) (by omega)
      have hw3 : Below w.heap.size w w3 := hbw.trans (hB3.mono hbw.size)
      have hI := HS.out s (List.mem_of_getElem? hs) w3 (hs1.old (Old.of_below hB3 hBr)) (by have := hB3.size; omega) (hTr.below hB3 h16r) (by have := hB3.size; omega)
      obtain ⟨M, hM⟩ : ∃ M, Hid (M = mayT (TT.th s)) := ⟨_, (rfl : _ = mayT (TT.th s))⟩
      rw [← hM.out] at hI
      have hA3' := hA3
      clear hb3 hb2 hA2 hr1 hs2 hs3 hA3 hB3 hbw hs1
      go_wp2_with (first
        | ((with_reducible show wpList _ _ _ _ _ _); refine wpList_load_at (P := Tryz.prog) rfl 53 (.tmp 6) rfl wr.heap.size rfl 53 s.cells hA3' _ Tryz.underlying53 rfl i42 ?_))
      refine hI.mono ?_
      rintro r w6 ⟨rfl, hb6⟩
      have hw6 : Below w.heap.size w w6 := hw3.trans (hb6.mono hw3.size)
      clear hI hb6 hw3 hA3'
      cases M with
      | false =>
        have hRf : R = false := by
          rw [hR.out, List.all_eq_false]
          exact ⟨TT.th s, List.mem_map.2 ⟨s, List.mem_of_getElem? hs, rfl⟩, by rw [← hM.out]; simp⟩
        go_wp2
        go_ret
        exact ⟨by rw [hRf]; rfl, hw6⟩
      | true =>
        go_wp2
        go_roundw
        case rel =>
          refine ⟨i + 1, by go_num, by omega, hw6, fun x hx => ?_⟩
          rw [List.take_add_one, hs, List.map_append, List.mem_append] at hx
          rcases hx with hx | hx
          · exact hall x hx
          · simp at hx; rw [hx]; exact hM.out.symm
        case measure => simp [intOf]; omega
    · have hin : i = n := by omega
      obtain ⟨hbw, hall⟩ := hX.out
      have hRt : R = true := by
        rw [hR.out, List.all_eq_true]
        intro s hs
        exact hall s (by rw [hin, hn.out, List.take_length]; exact hs)
      clear hX hall hin HR
      go_wp2
      go_ret
      exact ⟨by rw [hRt]; rfl, hbw⟩

end Go.Proofs.YtjgggmjjikopeaaGreatDoor

/- A block's text is written. -/
namespace Go.Proofs.YtjgggmjjikopeaaGreatDoor
open Go.RowKit
set_option linter.unusedVariables false

mutual
/-- A statement's text, but for the blanks ahead of it and its last line's end. -/
def stT (bl : List UInt8) : St → List UInt8
  | .mk k nm e body els =>
    if k = 1 then (nm ++ [32, 61, 32]) ++ (exT e ++ [59])
    else if k = 2 then [108, 111, 99, 107, 32] ++ (nm ++ [59])
    else if k = 3 then [117, 110, 108, 111, 99, 107, 32] ++ (nm ++ [59])
    else if k = 4 then [97, 115, 115, 101, 114, 116, 32] ++ (exT e ++ [59])
    else if k = 5 then ([105, 102, 32] ++ (exT e ++ [32, 123, 10])) ++ (blT (bl ++ [32, 32]) body ++ ((if els.isEmpty then [] else (bl ++ [125, 32, 101, 108, 115, 101, 32, 123, 10]) ++ blT (bl ++ [32, 32]) els) ++ (bl ++ [125])))
    else if k = 6 then ([119, 104, 105, 108, 101, 32] ++ (exT e ++ [32, 123, 10])) ++ (blT (bl ++ [32, 32]) body ++ (bl ++ [125]))
    else if k = 7 then [115, 107, 105, 112, 59]
    else []
def blT (bl : List UInt8) : List St → List UInt8
  | [] => []
  | s :: r => bl ++ (stT bl s ++ ([10] ++ blT bl r))
end

theorem blT_append (bl : List UInt8) : ∀ a b : List St, blT bl (a ++ b) = blT bl a ++ blT bl b
  | [], b => by simp [blT]
  | s :: r, b => by rw [List.cons_append, blT, blT, blT_append bl r b]; simp

/-- What writing a statement does. -/
def StmtWp (B g m : Nat) (s : ST) : Prop := ∀ (bl : ByteArray) (d : Nat) (w : World) (F : List UInt8), bl.size + 2 * (33 - d) ≤ 1000 → d ≤ 32 → mayS d s.st = true → s.In B w → Txt B w g m F → B ≤ w.heap.size → Tab w → (F ++ stT bl.data.toList s.st).length ≤ 70368744177664 →
    Calls Tryz.prog 117 #[.pointer (some ⟨g, 0, none⟩), .agg s.cells.toArray, .string bl] w fun r w' => r = .returned (.tuple #[]) ∧ Txt B w' g m (F ++ stT bl.data.toList s.st) ∧ Wr B g w w'

set_option maxRecDepth 100000 in
set_option maxHeartbeats 3200000 in
theorem blockP_of (B g m : Nat) (hm : m ≤ 9223372036854775807) (h16 : gB ≤ B) (ss : List ST) (hS : ∀ s ∈ ss, StmtWp B g m s) (bl : ByteArray) (d : Nat) (hbl : bl.size + 2 * (33 - d) ≤ 1000) (hmay : mayB d (ss.map ST.st) = true) (a : Option Addr) (c : Nat) (w : World) (F : List UInt8)
    (hr : RowS B w a c ss) (hT : Txt B w g m F) (hBw : B ≤ w.heap.size) (hTab : Tab w) (hlen : (F ++ blT bl.data.toList (ss.map ST.st)).length ≤ 70368744177664) :
    Calls Tryz.prog 82 #[.pointer (some ⟨g, 0, none⟩), .slice a ss.length c, .string bl] w fun r w' => r = .returned (.tuple #[]) ∧ Txt B w' g m (F ++ blT bl.data.toList (ss.map ST.st)) ∧ Wr B g w w' := by
  have hBg := hT.base
  have hgw := hT.lt
  obtain ⟨n, hn⟩ : ∃ n, Hid (n = ss.length) := ⟨_, (rfl : ss.length = _)⟩
  have hl := hr.1
  have hk := hr.2.1
  rw [← hn.out] at hl hk ⊢
  have HS : Hid (∀ s ∈ ss, StmtWp B g m s) := hS
  have HR : Hid (RowS B w a c ss ∧ Txt B w g m F ∧ Tab w ∧ mayB d (ss.map ST.st) = true) := ⟨hr, hT, hTab, hmay⟩
  have HL : Hid ((F ++ blT bl.data.toList (ss.map ST.st)).length ≤ 70368744177664) := hlen
  clear hS hr hT hTab hlen hmay
  go_enter Tryz.func82, Tryz.ntmps82
  go_wp2_with fail
  go_loopw [10] (fun j wr => ∃ i : Nat, j = .int .i64 (i : Int) ∧ i ≤ n ∧ Hid (Txt B wr g m (F ++ blT bl.data.toList ((ss.take i).map ST.st)) ∧ Wr B g w wr)) (fun j _ => n - (intOf j).toNat)
  case atStart => exact ⟨0, rfl, by omega, by simpa [blT] using HR.out.2.1, Wr.refl _ _ _⟩
  case round =>
    obtain ⟨i, rfl, hi, hX⟩ := hrel
    by_cases hc : i < n
    · obtain ⟨s, hs⟩ : ∃ k, ss[i]? = some k := ⟨ss[i]'(by rw [← hn.out]; exact hc), by rw [List.getElem?_eq_getElem]⟩
      obtain ⟨hTr, hWr⟩ := hX.out
      have hold : Old B w wr := Old.of_wr hWr hBg hBw
      obtain ⟨g1, o1, rfl, hg1, hr1, hs1⟩ := (HR.out.1.old hold).at i s hs
      have hgr := hTr.lt
      have htk : blT bl.data.toList ((ss.take (i + 1)).map ST.st) = blT bl.data.toList ((ss.take i).map ST.st) ++ (bl.data.toList ++ (stT bl.data.toList s.st ++ [10])) := by
        rw [List.take_add_one, hs, List.map_append, blT_append]
        simp [blT]
      have hle : (F ++ blT bl.data.toList ((ss.take (i + 1)).map ST.st)).length ≤ (F ++ blT bl.data.toList (ss.map ST.st)).length := by
        have e : blT bl.data.toList (ss.map ST.st) = blT bl.data.toList ((ss.take (i + 1)).map ST.st) ++ blT bl.data.toList ((ss.drop (i + 1)).map ST.st) := by
          rw [← blT_append, ← List.map_append, List.take_append_drop]
        rw [e]
        simp only [List.length_append]
        omega
      have hms := (mayB_iff d _).1 HR.out.2.2.2
      have hd32 : d ≤ 32 := by
        rcases hms.1 with h | h
        · have := congrArg List.length h
          rw [List.length_map, ← hn.out] at this
          simp at this
          omega
        · exact h
      have hmay := hms.2 s.st (List.mem_map.2 ⟨s, List.mem_of_getElem? hs, rfl⟩)
      obtain ⟨X, hX2⟩ : ∃ X, Hid (X = stT bl.data.toList s.st) := ⟨_, (rfl : stT bl.data.toList s.st = _)⟩
      obtain ⟨G, hG⟩ : ∃ G, Hid (G = F ++ blT bl.data.toList ((ss.take i).map ST.st)) := ⟨_, (rfl : _ = F ++ blT _ _)⟩
      have HG : Hid (F ++ blT bl.data.toList ((ss.take (i + 1)).map ST.st) = G ++ (bl.data.toList ++ (X ++ [10]))) := by
        show _ = _
        rw [htk, hX2.out, hG.out, List.append_assoc]
      have hlen2 : G.length + bl.data.toList.length + X.length + 1 ≤ 70368744177664 := by
        have h1 := HL.out
        rw [HG.out] at hle
        simp only [List.length_append, List.length_singleton] at hle h1
        omega
      rw [← hG.out] at hTr
      have HI : Hid (∀ w' F', Old B wr w' → Txt B w' g m F' → B ≤ w'.heap.size → Tab w' → (F' ++ X).length ≤ 70368744177664 → Calls Tryz.prog 117 #[.pointer (some ⟨g, 0, none⟩), .agg s.cells.toArray, .string bl] w' fun r w'' => r = .returned (.tuple #[]) ∧ Txt B w'' g m (F' ++ X) ∧ Wr B g w' w'') := by
        intro w' F' ho ht hb htab hln
        have := HS.out s (List.mem_of_getElem? hs) bl d w' F' hbl hd32 hmay (hs1.old ho) ht hb htab (by rw [← hX2.out]; exact hln)
        rw [← hX2.out] at this
        exact this
      have HK : Hid (Txt B wr g m G ∧ Wr B g w wr ∧ Tab wr) := ⟨hTr, hWr, HR.out.2.2.1.wr hWr hBg hBw h16⟩
      have hBr : B ≤ wr.heap.size := by have := hWr.size; omega
      clear hX hs1 hold htk hle hms hmay hTr hWr hX2 hG HS
      go_wp2_with (first
        | ((with_reducible show wpList _ _ _ _ _ _); refine wpList_load_mid (P := Tryz.prog) rfl 51 (.tmp 12) rfl g1 (o1 + i * 9) (by first | rfl | (simp; done)) s.cells _ hr1 Tryz.underlying51 rfl (by rw [ST.cells_len]; exact i38) ?_)
        | ((with_reducible show wpList _ _ _ _ _ _); refine wpList_alloc_at rfl 51 rfl _ 9 z38 ?_; intro w2 hA2 hb2 hs2)
        | ((with_reducible show wpList _ _ _ _ _ _); refine wpList_store_at (P := Tryz.prog) rfl 51 (.tmp 7) (.tmp 13) rfl wr.heap.size s.cells rfl rfl 51 _ hA2 (by rw [ST.cells_len]; exact i38) (by rw [ST.cells_len]; rfl) s.one ?_; intro w3 hA3 hb3 hs3; refine Hid.out ?_))
      refine hidU ?_
      have hB3 : Below wr.heap.size wr w3 := hb3.below hb2 (Nat.le_refl _) (by omega)
      have hA3' := hA3
      clear hb3 hb2 hA2 hr1 hs2 hs3 hA3
      go_wp2_with (first
        | ((with_reducible show wpList _ _ _ _ _ _); refine wpList_strs rfl 1 #[(0, .tmp 15)] rfl [bl] rfl (by decide) (by decide) (by kernel_rfl) ?_; intro w4 hA4 hb4 hs4; clear hs4))
      have hw4 : Below wr.heap.size wr w4 := hB3.trans (hb4.mono hB3.size)
      refine (put_any B g m _ [bl] G _ hm (HK.out.1.below hw4) hA4 (by simp only [cat, List.map_cons, List.map_nil, List.flatten_cons, List.flatten_nil, List.append_nil, List.length_append]; omega) (by simp)).mono ?_
      rintro r w5 ⟨rfl, hT5, hW5⟩
      have hT5' : Txt B w5 g m (G ++ bl.data.toList) := by simpa [cat] using hT5
      have hA5 := hW5.at (hA3'.below hb4) (by omega) (by decide)
      have hw5 : Wr B g wr w5 := (Wr.of_below hw4).trans hW5
      have hI := HI.out w5 _ (Old.of_wr hw5 hBg hBr) hT5' (by have := hw5.size; omega) (HK.out.2.2.wr hw5 hBg hBr h16) (by simp only [List.length_append]; omega)
      clear hT5 hT5' hW5 hA4 hb4 hw4 hA3' hB3 HI
      go_wp2_with (first
        | ((with_reducible show wpList _ _ _ _ _ _); refine wpList_load_at (P := Tryz.prog) rfl 51 (.tmp 7) rfl wr.heap.size rfl 51 s.cells hA5 _ Tryz.underlying51 rfl (by rw [ST.cells_len]; exact i38) ?_))
      refine hI.mono ?_
      rintro r w6 ⟨rfl, hT6, hW6⟩
      have hw6 := hw5.trans hW6
      clear hI hA5 hw5 hW6
      go_wp2_with (first
        | ((with_reducible show wpList _ _ _ _ _ _); refine wpList_strs rfl 1 #[(0, .const (.string ⟨#[10]⟩))] rfl [⟨#[10]⟩] rfl (by decide) (by decide) (by kernel_rfl) ?_; intro w7 hA7 hb7 hs7; clear hs7))
      refine (put_any B g m _ [⟨#[10]⟩] _ _ hm (hT6.below hb7) hA7 (by simp only [cat, List.map_cons, List.map_nil, List.flatten_cons, List.flatten_nil, List.append_nil, List.length_append, List.length_singleton]; omega) (by simp)).mono ?_
      rintro r w8 ⟨rfl, hT8, hW8⟩
      have HF : Hid (Txt B w8 g m (F ++ blT bl.data.toList ((ss.take (i + 1)).map ST.st)) ∧ Wr B g w w8) := by
        refine ⟨?_, HK.out.2.1.trans (hw6.trans ((Wr.of_below hb7).trans hW8))⟩
        rw [HG.out]
        have e : G ++ bl.data.toList ++ X ++ cat [⟨#[10]⟩] = G ++ (bl.data.toList ++ (X ++ [10])) := by simp [cat]
        rw [← e]
        exact hT8
      clear hT8 hW8 hA7 hb7 hw6 hT6 HK HG
      go_wp2
      go_roundw
      case rel => exact ⟨i + 1, by go_num, by omega, HF⟩
      case measure => simp [intOf]; omega
    · have hin : i = n := by omega
      have HY : Hid (Txt B wr g m (F ++ blT bl.data.toList (ss.map ST.st)) ∧ Wr B g w wr) := by
        have := hX.out
        rw [hin, hn.out, List.take_length] at this
        exact this
      clear hX hin
      go_wp2
      go_end0
      exact ⟨rfl, HY.out⟩

end Go.Proofs.YtjgggmjjikopeaaGreatDoor

/- Whether threads and programs may be printed. -/
namespace Go.Proofs.YtjgggmjjikopeaaGreatDoor
open Go.RowKit
set_option linter.unusedVariables false

set_option maxRecDepth 100000 in
set_option maxHeartbeats 1600000 in
theorem mayThread_at (nm : ByteArray) (s1 s2 : Value) (p1 p2 p3 : Bool) (w : World) (h1 : AskB w 77 #[.string nm] p1) (h2 : AskB w 74 #[s1, .func (.func 75) #[] #[]] p2) (h3 : AskB w 114 #[s2, .int .i64 0] p3) :
    Calls Tryz.prog 79 #[.agg [.string nm, s1, s2].toArray] w fun r w' => r = .returned (.bool (p1 && (p2 && p3))) ∧ Below w.heap.size w w' := by
  obtain ⟨R, hR⟩ : ∃ R, Hid (R = (p1 && (p2 && p3))) := ⟨_, (rfl : _ = (p1 && (p2 && p3)))⟩
  rw [← hR.out]
  have H1 : Hid (AskB w 77 #[.string nm] p1) := h1
  have H2 : Hid (AskB w 74 #[s1, .func (.func 75) #[] #[]] p2) := h2
  have H3 : Hid (AskB w 114 #[s2, .int .i64 0] p3) := h3
  clear h1 h2 h3
  go_enter Tryz.func79, Tryz.ntmps79
  go_wp2_with (first
    | ((with_reducible show wpList _ _ _ _ _ _); refine wpList_box_at rfl 53 (.tmp 0) rfl [.string nm, s1, s2] rfl ?_; intro w1 hA1 hb1 hs1; clear hs1; refine Hid.out ?_))
  refine hidU ?_
  have c0 : w1.cell? ⟨w.heap.size, 0, none⟩ = some (.string nm) := by rw [hA1.cell]; rfl
  go_wp2_with fail
  refine (H1.out _ hb1).mono ?_
  rintro r w2 ⟨rfl, hb2⟩
  have hA2 := hA1.below hb2
  have hw2 := hb1.trans (hb2.mono hb1.size)
  clear hA1 hb2 hb1 c0
  have c1 : w2.cell? ⟨w.heap.size, 1, none⟩ = some s1 := by rw [hA2.cell]; rfl
  cases p1 with
  | false =>
    go_wp2_with fail
    go_ret
    exact ⟨by rw [hR.out]; rfl, hw2⟩
  | true =>
    go_wp2_with fail
    refine (H2.out _ hw2).mono ?_
    rintro r w3 ⟨rfl, hb3⟩
    have hA3 := hA2.below hb3
    have hw3 := hw2.trans (hb3.mono hw2.size)
    clear hA2 hb3 hw2 c1
    have c2 : w3.cell? ⟨w.heap.size, 2, none⟩ = some s2 := by rw [hA3.cell]; rfl
    cases p2 with
    | false =>
      go_wp2_with fail
      go_ret
      exact ⟨by rw [hR.out]; rfl, hw3⟩
    | true =>
      go_wp2_with fail
      refine (H3.out _ hw3).mono ?_
      rintro r w4 ⟨rfl, hb4⟩
      have hw4 := hw3.trans (hb4.mono hw3.size)
      clear hA3 hb4 hw3 c2
      go_wp2_with fail
      go_ret
      exact ⟨by rw [hR.out]; rfl, hw4⟩

theorem mayThread_any (v : TT) (B : Nat) (w : World) (h : v.In B w) (hBw : B ≤ w.heap.size) (hT : Tab w) (h16 : gB ≤ w.heap.size) :
    Calls Tryz.prog 79 #[.agg v.cells.toArray] w fun r w' => r = .returned (.bool (mayT v.th)) ∧ Below w.heap.size w w' := by
  have hsz : ∀ w', Below w.heap.size w w' → B ≤ w'.heap.size ∧ gB ≤ w'.heap.size ∧ Tab w' ∧ Old B w w' := fun w' h => ⟨by have := h.size; omega, by have := h.size; omega, hT.below h h16, Old.of_below h hBw⟩
  exact mayThread_at v.nm (.slice v.a1 v.locals.length v.c1) (.slice v.a2 v.body.length v.c2) (isNm v.nm.data.toList) ((v.locals.map VT.vr).all mayV) (mayB 0 (v.body.map ST.st)) w
    (fun w' h => (name_any v.nm w').mono (by rintro r w2 ⟨rfl, rfl⟩; exact ⟨rfl, Below.refl _ _⟩))
    (fun w' hb => allV_any B v.locals v.a1 v.c1 w' (h.1.old (hsz w' hb).2.2.2) (hsz w' hb).1 (hsz w' hb).2.2.1 (hsz w' hb).2.1)
    (fun w' hb => mayBlock_any B v.body 0 (by decide) v.a2 v.c2 w' (h.2.old (hsz w' hb).2.2.2) (hsz w' hb).1 (hsz w' hb).2.2.1 (hsz w' hb).2.1)

set_option maxRecDepth 100000 in
set_option maxHeartbeats 1600000 in
theorem mayProgram_at (s1 s2 s3 : Value) (p1 p2 p3 : Bool) (w : World) (h1 : AskB w 74 #[s1, .func (.func 75) #[] #[]] p1) (h2 : AskB w 76 #[s2, .func (.func 77) #[] #[]] p2) (h3 : AskB w 78 #[s3, .func (.func 79) #[] #[]] p3) :
    Calls Tryz.prog 43 #[.agg [s1, s2, s3].toArray] w fun r w' => r = .returned (.bool (p1 && (p2 && p3))) ∧ Below w.heap.size w w' := by
  obtain ⟨R, hR⟩ : ∃ R, Hid (R = (p1 && (p2 && p3))) := ⟨_, (rfl : _ = (p1 && (p2 && p3)))⟩
  rw [← hR.out]
  have H1 : Hid (AskB w 74 #[s1, .func (.func 75) #[] #[]] p1) := h1
  have H2 : Hid (AskB w 76 #[s2, .func (.func 77) #[] #[]] p2) := h2
  have H3 : Hid (AskB w 78 #[s3, .func (.func 79) #[] #[]] p3) := h3
  clear h1 h2 h3
  go_enter Tryz.func43, Tryz.ntmps43
  go_wp2_with (first
    | ((with_reducible show wpList _ _ _ _ _ _); refine wpList_box_at rfl 26 (.tmp 0) rfl [s1, s2, s3] rfl ?_; intro w1 hA1 hb1 hs1; clear hs1; refine Hid.out ?_))
  refine hidU ?_
  have c0 : w1.cell? ⟨w.heap.size, 0, none⟩ = some s1 := by rw [hA1.cell]; rfl
  go_wp2_with fail
  refine (H1.out _ hb1).mono ?_
  rintro r w2 ⟨rfl, hb2⟩
  have hA2 := hA1.below hb2
  have hw2 := hb1.trans (hb2.mono hb1.size)
  clear hA1 hb2 hb1 c0
  have c1 : w2.cell? ⟨w.heap.size, 1, none⟩ = some s2 := by rw [hA2.cell]; rfl
  cases p1 with
  | false =>
    go_wp2_with fail
    go_ret
    exact ⟨by rw [hR.out]; rfl, hw2⟩
  | true =>
    go_wp2_with fail
    refine (H2.out _ hw2).mono ?_
    rintro r w3 ⟨rfl, hb3⟩
    have hA3 := hA2.below hb3
    have hw3 := hw2.trans (hb3.mono hw2.size)
    clear hA2 hb3 hw2 c1
    have c2 : w3.cell? ⟨w.heap.size, 2, none⟩ = some s3 := by rw [hA3.cell]; rfl
    cases p2 with
    | false =>
      go_wp2_with fail
      go_ret
      exact ⟨by rw [hR.out]; rfl, hw3⟩
    | true =>
      go_wp2_with fail
      refine (H3.out _ hw3).mono ?_
      rintro r w4 ⟨rfl, hb4⟩
      have hw4 := hw3.trans (hb4.mono hw3.size)
      clear hA3 hb4 hw3 c2
      go_wp2_with fail
      go_ret
      exact ⟨by rw [hR.out]; rfl, hw4⟩

theorem mayProgram_any (p : PT) (B : Nat) (w : World) (h : p.In B w) (hBw : B ≤ w.heap.size) (hT : Tab w) (h16 : gB ≤ w.heap.size) :
    Calls Tryz.prog 43 #[.agg p.cells.toArray] w fun r w' => r = .returned (.bool (mayP p.pg)) ∧ Below w.heap.size w w' := by
  have hsz : ∀ w', Below w.heap.size w w' → B ≤ w'.heap.size ∧ gB ≤ w'.heap.size ∧ Tab w' ∧ Old B w w' := fun w' h => ⟨by have := h.size; omega, by have := h.size; omega, hT.below h h16, Old.of_below h hBw⟩
  exact mayProgram_at (.slice p.a1 p.shared.length p.c1) (.slice p.a2 p.mutexes.length p.c2) (.slice p.a3 p.threads.length p.c3) ((p.shared.map VT.vr).all mayV) ((p.mutexes.map (fun s => s.data.toList)).all isNm) ((p.threads.map TT.th).all mayT) w
    (fun w' hb => allV_any B p.shared p.a1 p.c1 w' (h.1.old (hsz w' hb).2.2.2) (hsz w' hb).1 (hsz w' hb).2.2.1 (hsz w' hb).2.1)
    (fun w' hb => allN_any B p.mutexes p.a2 p.c2 w' (h.2.1.old (hsz w' hb).2.2.2) (hsz w' hb).1 (hsz w' hb).2.2.1 (hsz w' hb).2.1)
    (fun w' hb => allT_of B p.threads p.a3 p.c3 w' (h.2.2.old (hsz w' hb).2.2.2) (hsz w' hb).1 (hsz w' hb).2.2.1 (hsz w' hb).2.1 (fun s _ w hs hB hT h16 => mayThread_any s B w hs hB hT h16))

end Go.Proofs.YtjgggmjjikopeaaGreatDoor

/- A statement's text is written. -/
namespace Go.Proofs.YtjgggmjjikopeaaGreatDoor
open Go.RowKit
set_option linter.unusedVariables false

theorem around_any (B g m : Nat) (hm : m ≤ 9223372036854775807) (h16 : gB ≤ B) (e : ET) (he : mayE 32 e.ex = true) (s1 s2 : ByteArray) (X L1 L2 : List UInt8) (hX : X = exT e.ex) (h1 : L1 = s1.data.toList) (h2 : L2 = s2.data.toList) (w : World) (F : List UInt8) (hin : e.In B w) (hT : Txt B w g m F) (hBw : B ≤ w.heap.size) (hTab : Tab w)
    (hlen : (F ++ (L1 ++ (X ++ L2))).length ≤ 70368744177664) :
    Calls Tryz.prog 137 #[.pointer (some ⟨g, 0, none⟩), .string s1, .agg e.cells.toArray, .string s2] w fun r w' => r = .returned (.tuple #[]) ∧ Txt B w' g m (F ++ (L1 ++ (X ++ L2))) ∧ Wr B g w w' := by
  subst hX h1 h2
  exact around_of B g m e hm h16 (expr_any B g m hm h16 32 e he) s1 s2 w F hin hT hBw hTab hlen

theorem put_one (B g m k : Nat) (ps : List ByteArray) (C F : List UInt8) (hC : C = cat ps) (w : World) (hm : m ≤ 9223372036854775807) (h : Txt B w g m F) (hA : At 9 w k (ps.map .string)) (hlen : (F ++ C).length ≤ 70368744177664) (hps : ps.length ≤ 1000) :
    Calls Tryz.prog 81 #[.pointer (some ⟨g, 0, none⟩), .slice (some ⟨k, 0, none⟩) ps.length ps.length] w fun e w' => e = .returned (.tuple #[]) ∧ Txt B w' g m (F ++ C) ∧ Wr B g w w' := by
  subst hC
  exact put_any B g m k ps F w hm h hA hlen hps

theorem cat3 (a b : ByteArray) : (a ++ b).data.toList = a.data.toList ++ b.data.toList := by simp [ByteArray.data_append]

/-- What writing a block does. -/
def BlockWp (B g m : Nat) (a : Option Addr) (c : Nat) (ss : List ST) : Prop := ∀ (bl : ByteArray) (d : Nat) (w : World) (F : List UInt8), bl.size + 2 * (33 - d) ≤ 1000 → mayB d (ss.map ST.st) = true → RowS B w a c ss → Txt B w g m F → B ≤ w.heap.size → Tab w → (F ++ blT bl.data.toList (ss.map ST.st)).length ≤ 70368744177664 →
    Calls Tryz.prog 82 #[.pointer (some ⟨g, 0, none⟩), .slice a ss.length c, .string bl] w fun r w' => r = .returned (.tuple #[]) ∧ Txt B w' g m (F ++ blT bl.data.toList (ss.map ST.st)) ∧ Wr B g w w'

set_option maxRecDepth 100000 in
set_option maxHeartbeats 3200000 in
theorem stmtT_2 (B g m : Nat) (hm : m ≤ 9223372036854775807) (h16 : gB ≤ B) (nm : ByteArray) (op t b : Nat) (enm : ByteArray) (ea : Option Addr) (ec : Nat) (eks : List ET) (a1 : Option Addr) (c1 : Nat) (body : List ST) (a2 : Option Addr) (c2 : Nat) (els : List ST) : StmtWp B g m (.mk 2 nm (.mk op t b enm ea ec eks) a1 c1 body a2 c2 els) := by
  intro bl d w F hbl hd hmay hin hT hBw hTab hlen
  have hBg := hT.base
  have hgw := hT.lt
  obtain ⟨X, hX⟩ : ∃ X, Hid (X = exT (ET.mk op t b enm ea ec eks).ex) := ⟨_, (rfl : exT _ = _)⟩
  unfold ST.In at hin
  obtain ⟨hk, he, hb1, hb2⟩ := hin
  have htx : stT bl.data.toList (ST.mk 2 nm (ET.mk op t b enm ea ec eks) a1 c1 body a2 c2 els).st = [108, 111, 99, 107, 32] ++ (nm.data.toList ++ [59]) := by
    try rw [hX.out]
    show stT bl.data.toList (.mk 2 nm.data.toList (ET.mk op t b enm ea ec eks).ex (ST.sts body) (ST.sts els)) = _
    rw [stT]
    simp
  rw [htx] at hlen ⊢
  clear htx
  obtain ⟨n1, hn1⟩ : ∃ n, Hid (n = body.length) := ⟨_, (rfl : body.length = _)⟩
  obtain ⟨n2, hn2⟩ : ∃ n, Hid (n = els.length) := ⟨_, (rfl : els.length = _)⟩
  obtain ⟨n3, hn3⟩ : ∃ n, Hid (n = eks.length) := ⟨_, (rfl : eks.length = _)⟩
  have HI : Hid (Txt B w g m F) := hT
  clear hmay he hb1 hb2 hT hTab hX
  show Calls Tryz.prog 117 #[.pointer (some ⟨g, 0, none⟩), .agg (st9 2 nm (ex5 op t b enm (.slice ea eks.length ec)) (.slice a1 body.length c1) (.slice a2 els.length c2)).toArray, .string bl] w _
  rw [← hn1.out, ← hn2.out, ← hn3.out]
  go_enter Tryz.func117, Tryz.ntmps117
  go_wp2_with (first
    | ((with_reducible show wpList _ _ _ _ _ _); refine wpList_box_at rfl 51 (.tmp 1) rfl (st9 2 nm (ex5 op t b enm (.slice ea n3 ec)) (.slice a1 n1 c1) (.slice a2 n2 c2)) rfl ?_; intro w1 hA1 hw1 hs1; clear hs1; refine Hid.out ?_))
  refine hidU ?_
  obtain ⟨q0, q1, q2, q3, q4, q5, q6, q7, q8⟩ := st_cells hA1
  go_wp2_with (first
    | ((with_reducible show wpList _ _ _ _ _ _); refine wpList_strs rfl 3 #[(0, .const (.string ⟨#[108, 111, 99, 107, 32]⟩)), (1, .tmp 21), (2, .const (.string ⟨#[59]⟩))] rfl [⟨#[108, 111, 99, 107, 32]⟩, nm, ⟨#[59]⟩] rfl (by decide) (by decide) (by kernel_rfl) ?_; intro w2 hA2 hb2 hs2; clear hs2))
  refine (put_one B g m _ [⟨#[108, 111, 99, 107, 32]⟩, nm, ⟨#[59]⟩] ([108, 111, 99, 107, 32] ++ (nm.data.toList ++ [59])) F (by simp [cat]) _ hm ((HI.out.below hw1).below hb2) hA2 hlen (by simp)).mono ?_
  rintro r w3 ⟨rfl, hT2, hW2⟩
  have HF : Hid (Txt B w3 g m (F ++ ([108, 111, 99, 107, 32] ++ (nm.data.toList ++ [59]))) ∧ Wr B g w w3) := ⟨hT2, (Wr.of_below (hw1.trans (hb2.mono hw1.size))).trans hW2⟩
  clear hW2 hT2
  go_wp2
  go_end0
  exact ⟨rfl, HF.out⟩

set_option maxRecDepth 100000 in
set_option maxHeartbeats 3200000 in
theorem stmtT_3 (B g m : Nat) (hm : m ≤ 9223372036854775807) (h16 : gB ≤ B) (nm : ByteArray) (op t b : Nat) (enm : ByteArray) (ea : Option Addr) (ec : Nat) (eks : List ET) (a1 : Option Addr) (c1 : Nat) (body : List ST) (a2 : Option Addr) (c2 : Nat) (els : List ST) : StmtWp B g m (.mk 3 nm (.mk op t b enm ea ec eks) a1 c1 body a2 c2 els) := by
  intro bl d w F hbl hd hmay hin hT hBw hTab hlen
  have hBg := hT.base
  have hgw := hT.lt
  obtain ⟨X, hX⟩ : ∃ X, Hid (X = exT (ET.mk op t b enm ea ec eks).ex) := ⟨_, (rfl : exT _ = _)⟩
  unfold ST.In at hin
  obtain ⟨hk, he, hb1, hb2⟩ := hin
  have htx : stT bl.data.toList (ST.mk 3 nm (ET.mk op t b enm ea ec eks) a1 c1 body a2 c2 els).st = [117, 110, 108, 111, 99, 107, 32] ++ (nm.data.toList ++ [59]) := by
    try rw [hX.out]
    show stT bl.data.toList (.mk 3 nm.data.toList (ET.mk op t b enm ea ec eks).ex (ST.sts body) (ST.sts els)) = _
    rw [stT]
    simp
  rw [htx] at hlen ⊢
  clear htx
  obtain ⟨n1, hn1⟩ : ∃ n, Hid (n = body.length) := ⟨_, (rfl : body.length = _)⟩
  obtain ⟨n2, hn2⟩ : ∃ n, Hid (n = els.length) := ⟨_, (rfl : els.length = _)⟩
  obtain ⟨n3, hn3⟩ : ∃ n, Hid (n = eks.length) := ⟨_, (rfl : eks.length = _)⟩
  have HI : Hid (Txt B w g m F) := hT
  clear hmay he hb1 hb2 hT hTab hX
  show Calls Tryz.prog 117 #[.pointer (some ⟨g, 0, none⟩), .agg (st9 3 nm (ex5 op t b enm (.slice ea eks.length ec)) (.slice a1 body.length c1) (.slice a2 els.length c2)).toArray, .string bl] w _
  rw [← hn1.out, ← hn2.out, ← hn3.out]
  go_enter Tryz.func117, Tryz.ntmps117
  go_wp2_with (first
    | ((with_reducible show wpList _ _ _ _ _ _); refine wpList_box_at rfl 51 (.tmp 1) rfl (st9 3 nm (ex5 op t b enm (.slice ea n3 ec)) (.slice a1 n1 c1) (.slice a2 n2 c2)) rfl ?_; intro w1 hA1 hw1 hs1; clear hs1; refine Hid.out ?_))
  refine hidU ?_
  obtain ⟨q0, q1, q2, q3, q4, q5, q6, q7, q8⟩ := st_cells hA1
  go_wp2_with (first
    | ((with_reducible show wpList _ _ _ _ _ _); refine wpList_strs rfl 3 #[(0, .const (.string ⟨#[117, 110, 108, 111, 99, 107, 32]⟩)), (1, .tmp 28), (2, .const (.string ⟨#[59]⟩))] rfl [⟨#[117, 110, 108, 111, 99, 107, 32]⟩, nm, ⟨#[59]⟩] rfl (by decide) (by decide) (by kernel_rfl) ?_; intro w2 hA2 hb2 hs2; clear hs2))
  refine (put_one B g m _ [⟨#[117, 110, 108, 111, 99, 107, 32]⟩, nm, ⟨#[59]⟩] ([117, 110, 108, 111, 99, 107, 32] ++ (nm.data.toList ++ [59])) F (by simp [cat]) _ hm ((HI.out.below hw1).below hb2) hA2 hlen (by simp)).mono ?_
  rintro r w3 ⟨rfl, hT2, hW2⟩
  have HF : Hid (Txt B w3 g m (F ++ ([117, 110, 108, 111, 99, 107, 32] ++ (nm.data.toList ++ [59]))) ∧ Wr B g w w3) := ⟨hT2, (Wr.of_below (hw1.trans (hb2.mono hw1.size))).trans hW2⟩
  clear hW2 hT2
  go_wp2
  go_end0
  exact ⟨rfl, HF.out⟩

set_option maxRecDepth 100000 in
set_option maxHeartbeats 3200000 in
theorem stmtT_7 (B g m : Nat) (hm : m ≤ 9223372036854775807) (h16 : gB ≤ B) (nm : ByteArray) (op t b : Nat) (enm : ByteArray) (ea : Option Addr) (ec : Nat) (eks : List ET) (a1 : Option Addr) (c1 : Nat) (body : List ST) (a2 : Option Addr) (c2 : Nat) (els : List ST) : StmtWp B g m (.mk 7 nm (.mk op t b enm ea ec eks) a1 c1 body a2 c2 els) := by
  intro bl d w F hbl hd hmay hin hT hBw hTab hlen
  have hBg := hT.base
  have hgw := hT.lt
  obtain ⟨X, hX⟩ : ∃ X, Hid (X = exT (ET.mk op t b enm ea ec eks).ex) := ⟨_, (rfl : exT _ = _)⟩
  unfold ST.In at hin
  obtain ⟨hk, he, hb1, hb2⟩ := hin
  have htx : stT bl.data.toList (ST.mk 7 nm (ET.mk op t b enm ea ec eks) a1 c1 body a2 c2 els).st = [115, 107, 105, 112, 59] := by
    try rw [hX.out]
    show stT bl.data.toList (.mk 7 nm.data.toList (ET.mk op t b enm ea ec eks).ex (ST.sts body) (ST.sts els)) = _
    rw [stT]
    simp
  rw [htx] at hlen ⊢
  clear htx
  obtain ⟨n1, hn1⟩ : ∃ n, Hid (n = body.length) := ⟨_, (rfl : body.length = _)⟩
  obtain ⟨n2, hn2⟩ : ∃ n, Hid (n = els.length) := ⟨_, (rfl : els.length = _)⟩
  obtain ⟨n3, hn3⟩ : ∃ n, Hid (n = eks.length) := ⟨_, (rfl : eks.length = _)⟩
  have HI : Hid (Txt B w g m F) := hT
  clear hmay he hb1 hb2 hT hTab hX
  show Calls Tryz.prog 117 #[.pointer (some ⟨g, 0, none⟩), .agg (st9 7 nm (ex5 op t b enm (.slice ea eks.length ec)) (.slice a1 body.length c1) (.slice a2 els.length c2)).toArray, .string bl] w _
  rw [← hn1.out, ← hn2.out, ← hn3.out]
  go_enter Tryz.func117, Tryz.ntmps117
  go_wp2_with (first
    | ((with_reducible show wpList _ _ _ _ _ _); refine wpList_box_at rfl 51 (.tmp 1) rfl (st9 7 nm (ex5 op t b enm (.slice ea n3 ec)) (.slice a1 n1 c1) (.slice a2 n2 c2)) rfl ?_; intro w1 hA1 hw1 hs1; clear hs1; refine Hid.out ?_))
  refine hidU ?_
  obtain ⟨q0, q1, q2, q3, q4, q5, q6, q7, q8⟩ := st_cells hA1
  go_wp2_with (first
    | ((with_reducible show wpList _ _ _ _ _ _); refine wpList_strs rfl 1 #[(0, .const (.string ⟨#[115, 107, 105, 112, 59]⟩))] rfl [⟨#[115, 107, 105, 112, 59]⟩] rfl (by decide) (by decide) (by kernel_rfl) ?_; intro w2 hA2 hb2 hs2; clear hs2))
  refine (put_one B g m _ [⟨#[115, 107, 105, 112, 59]⟩] [115, 107, 105, 112, 59] F (by simp [cat]) _ hm ((HI.out.below hw1).below hb2) hA2 hlen (by simp)).mono ?_
  rintro r w3 ⟨rfl, hT2, hW2⟩
  have HF : Hid (Txt B w3 g m (F ++ [115, 107, 105, 112, 59]) ∧ Wr B g w w3) := ⟨hT2, (Wr.of_below (hw1.trans (hb2.mono hw1.size))).trans hW2⟩
  clear hW2 hT2
  go_wp2
  go_end0
  exact ⟨rfl, HF.out⟩

set_option maxRecDepth 100000 in
set_option maxHeartbeats 3200000 in
theorem stmtT_1 (B g m : Nat) (hm : m ≤ 9223372036854775807) (h16 : gB ≤ B) (nm : ByteArray) (op t b : Nat) (enm : ByteArray) (ea : Option Addr) (ec : Nat) (eks : List ET) (a1 : Option Addr) (c1 : Nat) (body : List ST) (a2 : Option Addr) (c2 : Nat) (els : List ST) : StmtWp B g m (.mk 1 nm (.mk op t b enm ea ec eks) a1 c1 body a2 c2 els) := by
  intro bl d w F hbl hd hmay hin hT hBw hTab hlen
  have hBg := hT.base
  have hgw := hT.lt
  obtain ⟨X, hX⟩ : ∃ X, Hid (X = exT (ET.mk op t b enm ea ec eks).ex) := ⟨_, (rfl : exT _ = _)⟩
  unfold ST.In at hin
  obtain ⟨hk, he, hb1, hb2⟩ := hin
  have htx : stT bl.data.toList (ST.mk 1 nm (ET.mk op t b enm ea ec eks) a1 c1 body a2 c2 els).st = (nm.data.toList ++ [32, 61, 32]) ++ (X ++ [59]) := by
    try rw [hX.out]
    show stT bl.data.toList (.mk 1 nm.data.toList (ET.mk op t b enm ea ec eks).ex (ST.sts body) (ST.sts els)) = _
    rw [stT]
    simp
  rw [htx] at hlen ⊢
  clear htx
  obtain ⟨n1, hn1⟩ : ∃ n, Hid (n = body.length) := ⟨_, (rfl : body.length = _)⟩
  obtain ⟨n2, hn2⟩ : ∃ n, Hid (n = els.length) := ⟨_, (rfl : els.length = _)⟩
  obtain ⟨n3, hn3⟩ : ∃ n, Hid (n = eks.length) := ⟨_, (rfl : eks.length = _)⟩
  have hme : mayE 32 (ET.mk op t b enm ea ec eks).ex = true := by
    have h := (show mayS d (.mk 1 nm.data.toList (ET.mk op t b enm ea ec eks).ex (ST.sts body) (ST.sts els)) = true from hmay)
    rw [mayS] at h
    simp at h
    exact h.2.1
  have hA : ∀ w, (ET.mk op t b enm ea ec eks).In B w → Txt B w g m F → B ≤ w.heap.size → Tab w → Calls Tryz.prog 137 #[.pointer (some ⟨g, 0, none⟩), .string (nm ++ ⟨#[32, 61, 32]⟩), .agg (ex5 op t b enm (.slice ea n3 ec)).toArray, .string ⟨#[59]⟩] w fun r w' => r = .returned (.tuple #[]) ∧ Txt B w' g m (F ++ ((nm.data.toList ++ [32, 61, 32]) ++ (X ++ [59]))) ∧ Wr B g w w' := fun w h1 h2 h3 h4 => by
    rw [hn3.out]
    exact around_any B g m hm h16 _ hme (nm ++ ⟨#[32, 61, 32]⟩) ⟨#[59]⟩ X _ _ hX.out (cat3 nm _).symm rfl w F h1 h2 h3 h4 (by first | exact hlen | (simp only [List.length_append] at hlen ⊢; omega))
  have HI : Hid (Txt B w g m F ∧ (ET.mk op t b enm ea ec eks).In B w ∧ Tab w) := ⟨hT, he, hTab⟩
  have hnl : ¬ (9223372036854775807 < nm.size + 3) := by
    have : nm.data.toList.length = nm.size := Array.length_toList
    simp only [List.length_append] at hlen
    omega
  clear hmay he hb1 hb2 hT hTab hX hme hlen
  show Calls Tryz.prog 117 #[.pointer (some ⟨g, 0, none⟩), .agg (st9 1 nm (ex5 op t b enm (.slice ea eks.length ec)) (.slice a1 body.length c1) (.slice a2 els.length c2)).toArray, .string bl] w _
  rw [← hn1.out, ← hn2.out, ← hn3.out]
  go_enter Tryz.func117, Tryz.ntmps117
  go_wp2_with (first
    | ((with_reducible show wpList _ _ _ _ _ _); refine wpList_box_at rfl 51 (.tmp 1) rfl (st9 1 nm (ex5 op t b enm (.slice ea n3 ec)) (.slice a1 n1 c1) (.slice a2 n2 c2)) rfl ?_; intro w1 hA1 hw1 hs1; clear hs1; refine Hid.out ?_))
  refine hidU ?_
  obtain ⟨q0, q1, q2, q3, q4, q5, q6, q7, q8⟩ := st_cells hA1
  have hA' := hA w1 (HI.out.2.1.old (Old.of_below hw1 hBw)) (HI.out.1.below hw1) (by have := hw1.size; omega) (HI.out.2.2.below hw1 (by omega))
  clear hA
  go_wp2_with fail
  refine hA'.mono ?_
  rintro r w3 ⟨rfl, hT2, hW2⟩
  have HF : Hid (Txt B w3 g m (F ++ ((nm.data.toList ++ [32, 61, 32]) ++ (X ++ [59]))) ∧ Wr B g w w3) := ⟨hT2, (Wr.of_below hw1).trans hW2⟩
  clear hA'
  clear hW2 hT2
  go_wp2
  go_end0
  exact ⟨rfl, HF.out⟩

set_option maxRecDepth 100000 in
set_option maxHeartbeats 3200000 in
theorem stmtT_4 (B g m : Nat) (hm : m ≤ 9223372036854775807) (h16 : gB ≤ B) (nm : ByteArray) (op t b : Nat) (enm : ByteArray) (ea : Option Addr) (ec : Nat) (eks : List ET) (a1 : Option Addr) (c1 : Nat) (body : List ST) (a2 : Option Addr) (c2 : Nat) (els : List ST) : StmtWp B g m (.mk 4 nm (.mk op t b enm ea ec eks) a1 c1 body a2 c2 els) := by
  intro bl d w F hbl hd hmay hin hT hBw hTab hlen
  have hBg := hT.base
  have hgw := hT.lt
  obtain ⟨X, hX⟩ : ∃ X, Hid (X = exT (ET.mk op t b enm ea ec eks).ex) := ⟨_, (rfl : exT _ = _)⟩
  unfold ST.In at hin
  obtain ⟨hk, he, hb1, hb2⟩ := hin
  have htx : stT bl.data.toList (ST.mk 4 nm (ET.mk op t b enm ea ec eks) a1 c1 body a2 c2 els).st = [97, 115, 115, 101, 114, 116, 32] ++ (X ++ [59]) := by
    try rw [hX.out]
    show stT bl.data.toList (.mk 4 nm.data.toList (ET.mk op t b enm ea ec eks).ex (ST.sts body) (ST.sts els)) = _
    rw [stT]
    simp
  rw [htx] at hlen ⊢
  clear htx
  obtain ⟨n1, hn1⟩ : ∃ n, Hid (n = body.length) := ⟨_, (rfl : body.length = _)⟩
  obtain ⟨n2, hn2⟩ : ∃ n, Hid (n = els.length) := ⟨_, (rfl : els.length = _)⟩
  obtain ⟨n3, hn3⟩ : ∃ n, Hid (n = eks.length) := ⟨_, (rfl : eks.length = _)⟩
  have hme : mayE 32 (ET.mk op t b enm ea ec eks).ex = true := by
    have h := (show mayS d (.mk 4 nm.data.toList (ET.mk op t b enm ea ec eks).ex (ST.sts body) (ST.sts els)) = true from hmay)
    rw [mayS] at h
    simp at h
    exact h.2.1
  have hA : ∀ w, (ET.mk op t b enm ea ec eks).In B w → Txt B w g m F → B ≤ w.heap.size → Tab w → Calls Tryz.prog 137 #[.pointer (some ⟨g, 0, none⟩), .string ⟨#[97, 115, 115, 101, 114, 116, 32]⟩, .agg (ex5 op t b enm (.slice ea n3 ec)).toArray, .string ⟨#[59]⟩] w fun r w' => r = .returned (.tuple #[]) ∧ Txt B w' g m (F ++ ([97, 115, 115, 101, 114, 116, 32] ++ (X ++ [59]))) ∧ Wr B g w w' := fun w h1 h2 h3 h4 => by
    rw [hn3.out]
    exact around_any B g m hm h16 _ hme ⟨#[97, 115, 115, 101, 114, 116, 32]⟩ ⟨#[59]⟩ X _ _ hX.out rfl rfl w F h1 h2 h3 h4 (by first | exact hlen | (simp only [List.length_append] at hlen ⊢; omega))
  have HI : Hid (Txt B w g m F ∧ (ET.mk op t b enm ea ec eks).In B w ∧ Tab w) := ⟨hT, he, hTab⟩
  clear hmay he hb1 hb2 hT hTab hX hme hlen
  show Calls Tryz.prog 117 #[.pointer (some ⟨g, 0, none⟩), .agg (st9 4 nm (ex5 op t b enm (.slice ea eks.length ec)) (.slice a1 body.length c1) (.slice a2 els.length c2)).toArray, .string bl] w _
  rw [← hn1.out, ← hn2.out, ← hn3.out]
  go_enter Tryz.func117, Tryz.ntmps117
  go_wp2_with (first
    | ((with_reducible show wpList _ _ _ _ _ _); refine wpList_box_at rfl 51 (.tmp 1) rfl (st9 4 nm (ex5 op t b enm (.slice ea n3 ec)) (.slice a1 n1 c1) (.slice a2 n2 c2)) rfl ?_; intro w1 hA1 hw1 hs1; clear hs1; refine Hid.out ?_))
  refine hidU ?_
  obtain ⟨q0, q1, q2, q3, q4, q5, q6, q7, q8⟩ := st_cells hA1
  have hA' := hA w1 (HI.out.2.1.old (Old.of_below hw1 hBw)) (HI.out.1.below hw1) (by have := hw1.size; omega) (HI.out.2.2.below hw1 (by omega))
  clear hA
  go_wp2_with fail
  refine hA'.mono ?_
  rintro r w3 ⟨rfl, hT2, hW2⟩
  have HF : Hid (Txt B w3 g m (F ++ ([97, 115, 115, 101, 114, 116, 32] ++ (X ++ [59]))) ∧ Wr B g w w3) := ⟨hT2, (Wr.of_below hw1).trans hW2⟩
  clear hA'
  clear hW2 hT2
  go_wp2
  go_end0
  exact ⟨rfl, HF.out⟩

set_option maxRecDepth 100000 in
set_option maxHeartbeats 3200000 in
theorem stmtT_5n (B g m : Nat) (hm : m ≤ 9223372036854775807) (h16 : gB ≤ B) (nm : ByteArray) (op t b : Nat) (enm : ByteArray) (ea : Option Addr) (ec : Nat) (eks : List ET) (a1 : Option Addr) (c1 : Nat) (body : List ST) (a2 : Option Addr) (c2 : Nat) (els : List ST) (W5Y : BlockWp B g m a1 c1 body) (W5Z : BlockWp B g m a2 c2 els) (hne : els = []) : StmtWp B g m (.mk 5 nm (.mk op t b enm ea ec eks) a1 c1 body a2 c2 els) := by
  intro bl d w F hbl hd hmay hin hT hBw hTab hlen
  have hBg := hT.base
  have hgw := hT.lt
  obtain ⟨X, hX⟩ : ∃ X, Hid (X = exT (ET.mk op t b enm ea ec eks).ex) := ⟨_, (rfl : exT _ = _)⟩
  unfold ST.In at hin
  obtain ⟨hk, he, hb1, hb2⟩ := hin
  obtain ⟨Y, hY⟩ : ∃ Y, Hid (Y = blT (bl.data.toList ++ [32, 32]) (body.map ST.st)) := ⟨_, (rfl : _ = blT (bl.data.toList ++ [32, 32]) (body.map ST.st))⟩
  obtain ⟨Z, hZ⟩ : ∃ Z, Hid (Z = blT (bl.data.toList ++ [32, 32]) (els.map ST.st)) := ⟨_, (rfl : _ = blT (bl.data.toList ++ [32, 32]) (els.map ST.st))⟩
  have htx : stT bl.data.toList (ST.mk 5 nm (ET.mk op t b enm ea ec eks) a1 c1 body a2 c2 els).st = ([105, 102, 32] ++ (X ++ [32, 123, 10])) ++ (Y ++ (bl.data.toList ++ [125])) := by
    rw [hX.out, hY.out]
    show stT bl.data.toList (.mk 5 nm.data.toList (ET.mk op t b enm ea ec eks).ex (ST.sts body) (ST.sts els)) = _
    rw [stT, ST.sts_eq, ST.sts_eq]
    simp [hne]
  rw [htx] at hlen ⊢
  clear htx
  obtain ⟨n1, hn1⟩ : ∃ n, Hid (n = body.length) := ⟨_, (rfl : body.length = _)⟩
  obtain ⟨n2, hn2⟩ : ∃ n, Hid (n = els.length) := ⟨_, (rfl : els.length = _)⟩
  obtain ⟨n3, hn3⟩ : ∃ n, Hid (n = eks.length) := ⟨_, (rfl : eks.length = _)⟩
  have hms : mayE 32 (ET.mk op t b enm ea ec eks).ex = true ∧ mayB (d + 1) (body.map ST.st) = true ∧ mayB (d + 1) (els.map ST.st) = true := by
    have h := (show mayS d (.mk 5 nm.data.toList (ET.mk op t b enm ea ec eks).ex (ST.sts body) (ST.sts els)) = true from hmay)
    rw [mayS, ST.sts_eq, ST.sts_eq] at h
    simp at h
    exact ⟨h.2.1, h.2.2.1, h.2.2.2⟩
  have hme := hms.1
  have hA : ∀ w, (ET.mk op t b enm ea ec eks).In B w → Txt B w g m F → B ≤ w.heap.size → Tab w → Calls Tryz.prog 137 #[.pointer (some ⟨g, 0, none⟩), .string ⟨#[105, 102, 32]⟩, .agg (ex5 op t b enm (.slice ea n3 ec)).toArray, .string ⟨#[32, 123, 10]⟩] w fun r w' => r = .returned (.tuple #[]) ∧ Txt B w' g m (F ++ ([105, 102, 32] ++ (X ++ [32, 123, 10]))) ∧ Wr B g w w' := fun w h1 h2 h3 h4 => by
    rw [hn3.out]
    exact around_any B g m hm h16 _ hme ⟨#[105, 102, 32]⟩ ⟨#[32, 123, 10]⟩ X _ _ hX.out rfl rfl w F h1 h2 h3 h4 (by first | exact hlen | (simp only [List.length_append] at hlen ⊢; omega))
  have h5Y : ∀ w, RowS B w a1 c1 body → Txt B w g m (F ++ ([105, 102, 32] ++ (X ++ [32, 123, 10]))) → B ≤ w.heap.size → Tab w → Calls Tryz.prog 82 #[.pointer (some ⟨g, 0, none⟩), .slice a1 n1 c1, .string (bl ++ ⟨#[32, 32]⟩)] w fun r w' => r = .returned (.tuple #[]) ∧ Txt B w' g m (F ++ ([105, 102, 32] ++ (X ++ [32, 123, 10])) ++ Y) ∧ Wr B g w w' := fun w h1 h2 h3 h4 => by
    have e : Y = blT (bl ++ ⟨#[32, 32]⟩ : ByteArray).data.toList (body.map ST.st) := by rw [hY.out, cat3]
    rw [hn1.out, e]
    exact W5Y (bl ++ ⟨#[32, 32]⟩) (d + 1) w (F ++ ([105, 102, 32] ++ (X ++ [32, 123, 10]))) (by rw [ByteArray.size_append]; show bl.size + 2 + 2 * (33 - (d + 1)) ≤ 1000; omega) hms.2.1 h1 h2 h3 h4 (by rw [← e]; simp only [List.length_append] at hlen ⊢; omega)
  have HI : Hid (Txt B w g m F ∧ (ET.mk op t b enm ea ec eks).In B w ∧ Tab w ∧ RowS B w a1 c1 body ∧ RowS B w a2 c2 els) := ⟨hT, he, hTab, hb1, hb2⟩
  have HL : Hid ((F ++ (([105, 102, 32] ++ (X ++ [32, 123, 10])) ++ (Y ++ (bl.data.toList ++ [125])))).length ≤ 70368744177664) := hlen
  have hz2 : n2 = 0 := by rw [hn2.out, hne]; rfl
  subst hz2
  clear hmay he hb1 hb2 hT hTab hX hY hZ hme hlen hms W5Y W5Z
  show Calls Tryz.prog 117 #[.pointer (some ⟨g, 0, none⟩), .agg (st9 5 nm (ex5 op t b enm (.slice ea eks.length ec)) (.slice a1 body.length c1) (.slice a2 els.length c2)).toArray, .string bl] w _
  rw [← hn1.out, ← hn2.out, ← hn3.out]
  clear hne
  go_enter Tryz.func117, Tryz.ntmps117
  go_wp2_with (first
    | ((with_reducible show wpList _ _ _ _ _ _); refine wpList_box_at rfl 51 (.tmp 1) rfl (st9 5 nm (ex5 op t b enm (.slice ea n3 ec)) (.slice a1 n1 c1) (.slice a2 0 c2)) rfl ?_; intro w1 hA1 hw1 hs1; clear hs1; refine Hid.out ?_))
  refine hidU ?_
  obtain ⟨q0, q1, q2, q3, q4, q5, q6, q7, q8⟩ := st_cells hA1
  have hold1 := Old.of_below hw1 hBw
  have hA' := hA w1 (HI.out.2.1.old hold1) (HI.out.1.below hw1) (by have := hw1.size; omega) (HI.out.2.2.1.below hw1 (by omega))
  clear hA hold1
  go_wp2_with fail
  refine hA'.mono ?_
  rintro r w2 ⟨rfl, hT2, hW2⟩
  have hw2 : Wr B g w w2 := (Wr.of_below hw1).trans hW2
  have hA2 := hW2.at hA1 (by omega) (by decide)
  clear hA' hA1 hW2 hw1 q0 q1 q2 q3 q4 q5 q6 q7 q8
  obtain ⟨q0, q1, q2, q3, q4, q5, q6, q7, q8⟩ := st_cells hA2
  have hB' := h5Y w2 (HI.out.2.2.2.1.old (Old.of_wr hw2 hBg hBw)) hT2 (by have := hw2.size; omega) (HI.out.2.2.1.wr hw2 hBg hBw h16)
  have hbl2 : ¬ (9223372036854775807 < bl.size + 2) := by omega
  clear h5Y hT2
  go_wp2_with fail
  refine hB'.mono ?_
  rintro r w3 ⟨rfl, hT3, hW3⟩
  have hw3 : Wr B g w w3 := hw2.trans hW3
  have hA3 := hW3.at hA2 (by omega) (by decide)
  clear hB' hA2 hW3 hw2 q0 q1 q2 q3 q4 q5 q6 q7 q8
  obtain ⟨q0, q1, q2, q3, q4, q5, q6, q7, q8⟩ := st_cells hA3
  go_wp2_with (first
    | ((with_reducible show wpList _ _ _ _ _ _); refine wpList_strs rfl 2 #[(0, .tmp 64), (1, .const (.string ⟨#[125]⟩))] rfl [bl, ⟨#[125]⟩] rfl (by decide) (by decide) (by kernel_rfl) ?_; intro w7 hA7 hb7 hs7; clear hs7))
  refine (put_one B g m _ [bl, ⟨#[125]⟩] (bl.data.toList ++ [125]) _ (by simp [cat]) _ hm (hT3.below hb7) hA7 (by have := HL.out; simp only [List.length_append] at this ⊢; omega) (by simp)).mono ?_
  rintro r w8 ⟨rfl, hT2, hW2⟩
  have HF : Hid (Txt B w8 g m (F ++ (([105, 102, 32] ++ (X ++ [32, 123, 10])) ++ (Y ++ (bl.data.toList ++ [125])))) ∧ Wr B g w w8) := ⟨by simpa only [List.append_assoc] using hT2, hw3.trans ((Wr.of_below hb7).trans hW2)⟩
  clear hw3 hT3 hA7 hb7
  clear hW2 hT2
  go_wp2
  go_end0
  exact ⟨rfl, HF.out⟩

set_option maxRecDepth 100000 in
set_option maxHeartbeats 3200000 in
theorem stmtT_5e (B g m : Nat) (hm : m ≤ 9223372036854775807) (h16 : gB ≤ B) (nm : ByteArray) (op t b : Nat) (enm : ByteArray) (ea : Option Addr) (ec : Nat) (eks : List ET) (a1 : Option Addr) (c1 : Nat) (body : List ST) (a2 : Option Addr) (c2 : Nat) (els : List ST) (W5Y : BlockWp B g m a1 c1 body) (W5Z : BlockWp B g m a2 c2 els) (hne : els ≠ []) : StmtWp B g m (.mk 5 nm (.mk op t b enm ea ec eks) a1 c1 body a2 c2 els) := by
  intro bl d w F hbl hd hmay hin hT hBw hTab hlen
  have hBg := hT.base
  have hgw := hT.lt
  obtain ⟨X, hX⟩ : ∃ X, Hid (X = exT (ET.mk op t b enm ea ec eks).ex) := ⟨_, (rfl : exT _ = _)⟩
  unfold ST.In at hin
  obtain ⟨hk, he, hb1, hb2⟩ := hin
  obtain ⟨Y, hY⟩ : ∃ Y, Hid (Y = blT (bl.data.toList ++ [32, 32]) (body.map ST.st)) := ⟨_, (rfl : _ = blT (bl.data.toList ++ [32, 32]) (body.map ST.st))⟩
  obtain ⟨Z, hZ⟩ : ∃ Z, Hid (Z = blT (bl.data.toList ++ [32, 32]) (els.map ST.st)) := ⟨_, (rfl : _ = blT (bl.data.toList ++ [32, 32]) (els.map ST.st))⟩
  have htx : stT bl.data.toList (ST.mk 5 nm (ET.mk op t b enm ea ec eks) a1 c1 body a2 c2 els).st = ([105, 102, 32] ++ (X ++ [32, 123, 10])) ++ (Y ++ ((bl.data.toList ++ [125, 32, 101, 108, 115, 101, 32, 123, 10] ++ Z) ++ (bl.data.toList ++ [125]))) := by
    rw [hX.out, hY.out, hZ.out]
    show stT bl.data.toList (.mk 5 nm.data.toList (ET.mk op t b enm ea ec eks).ex (ST.sts body) (ST.sts els)) = _
    rw [stT, ST.sts_eq, ST.sts_eq]
    simp [hne]
  rw [htx] at hlen ⊢
  clear htx
  obtain ⟨n1, hn1⟩ : ∃ n, Hid (n = body.length) := ⟨_, (rfl : body.length = _)⟩
  obtain ⟨n2, hn2⟩ : ∃ n, Hid (n = els.length) := ⟨_, (rfl : els.length = _)⟩
  obtain ⟨n3, hn3⟩ : ∃ n, Hid (n = eks.length) := ⟨_, (rfl : eks.length = _)⟩
  have hms : mayE 32 (ET.mk op t b enm ea ec eks).ex = true ∧ mayB (d + 1) (body.map ST.st) = true ∧ mayB (d + 1) (els.map ST.st) = true := by
    have h := (show mayS d (.mk 5 nm.data.toList (ET.mk op t b enm ea ec eks).ex (ST.sts body) (ST.sts els)) = true from hmay)
    rw [mayS, ST.sts_eq, ST.sts_eq] at h
    simp at h
    exact ⟨h.2.1, h.2.2.1, h.2.2.2⟩
  have hme := hms.1
  have hA : ∀ w, (ET.mk op t b enm ea ec eks).In B w → Txt B w g m F → B ≤ w.heap.size → Tab w → Calls Tryz.prog 137 #[.pointer (some ⟨g, 0, none⟩), .string ⟨#[105, 102, 32]⟩, .agg (ex5 op t b enm (.slice ea n3 ec)).toArray, .string ⟨#[32, 123, 10]⟩] w fun r w' => r = .returned (.tuple #[]) ∧ Txt B w' g m (F ++ ([105, 102, 32] ++ (X ++ [32, 123, 10]))) ∧ Wr B g w w' := fun w h1 h2 h3 h4 => by
    rw [hn3.out]
    exact around_any B g m hm h16 _ hme ⟨#[105, 102, 32]⟩ ⟨#[32, 123, 10]⟩ X _ _ hX.out rfl rfl w F h1 h2 h3 h4 (by first | exact hlen | (simp only [List.length_append] at hlen ⊢; omega))
  have h5Y : ∀ w, RowS B w a1 c1 body → Txt B w g m (F ++ ([105, 102, 32] ++ (X ++ [32, 123, 10]))) → B ≤ w.heap.size → Tab w → Calls Tryz.prog 82 #[.pointer (some ⟨g, 0, none⟩), .slice a1 n1 c1, .string (bl ++ ⟨#[32, 32]⟩)] w fun r w' => r = .returned (.tuple #[]) ∧ Txt B w' g m (F ++ ([105, 102, 32] ++ (X ++ [32, 123, 10])) ++ Y) ∧ Wr B g w w' := fun w h1 h2 h3 h4 => by
    have e : Y = blT (bl ++ ⟨#[32, 32]⟩ : ByteArray).data.toList (body.map ST.st) := by rw [hY.out, cat3]
    rw [hn1.out, e]
    exact W5Y (bl ++ ⟨#[32, 32]⟩) (d + 1) w (F ++ ([105, 102, 32] ++ (X ++ [32, 123, 10]))) (by rw [ByteArray.size_append]; show bl.size + 2 + 2 * (33 - (d + 1)) ≤ 1000; omega) hms.2.1 h1 h2 h3 h4 (by rw [← e]; simp only [List.length_append] at hlen ⊢; omega)
  have h5Z : ∀ w, RowS B w a2 c2 els → Txt B w g m (F ++ ([105, 102, 32] ++ (X ++ [32, 123, 10])) ++ Y ++ (bl.data.toList ++ [125, 32, 101, 108, 115, 101, 32, 123, 10])) → B ≤ w.heap.size → Tab w → Calls Tryz.prog 82 #[.pointer (some ⟨g, 0, none⟩), .slice a2 n2 c2, .string (bl ++ ⟨#[32, 32]⟩)] w fun r w' => r = .returned (.tuple #[]) ∧ Txt B w' g m (F ++ ([105, 102, 32] ++ (X ++ [32, 123, 10])) ++ Y ++ (bl.data.toList ++ [125, 32, 101, 108, 115, 101, 32, 123, 10]) ++ Z) ∧ Wr B g w w' := fun w h1 h2 h3 h4 => by
    have e : Z = blT (bl ++ ⟨#[32, 32]⟩ : ByteArray).data.toList (els.map ST.st) := by rw [hZ.out, cat3]
    rw [hn2.out, e]
    exact W5Z (bl ++ ⟨#[32, 32]⟩) (d + 1) w (F ++ ([105, 102, 32] ++ (X ++ [32, 123, 10])) ++ Y ++ (bl.data.toList ++ [125, 32, 101, 108, 115, 101, 32, 123, 10])) (by rw [ByteArray.size_append]; show bl.size + 2 + 2 * (33 - (d + 1)) ≤ 1000; omega) hms.2.2 h1 h2 h3 h4 (by rw [← e]; simp only [List.length_append] at hlen ⊢; omega)
  have HI : Hid (Txt B w g m F ∧ (ET.mk op t b enm ea ec eks).In B w ∧ Tab w ∧ RowS B w a1 c1 body ∧ RowS B w a2 c2 els) := ⟨hT, he, hTab, hb1, hb2⟩
  have HL : Hid ((F ++ (([105, 102, 32] ++ (X ++ [32, 123, 10])) ++ (Y ++ ((bl.data.toList ++ [125, 32, 101, 108, 115, 101, 32, 123, 10] ++ Z) ++ (bl.data.toList ++ [125]))))).length ≤ 70368744177664) := hlen
  have hpos : (0 : Int) < (n2 : Int) := by have := List.length_pos_iff.2 hne; rw [← hn2.out] at this; omega
  clear hmay he hb1 hb2 hT hTab hX hY hZ hme hlen hms W5Y W5Z
  show Calls Tryz.prog 117 #[.pointer (some ⟨g, 0, none⟩), .agg (st9 5 nm (ex5 op t b enm (.slice ea eks.length ec)) (.slice a1 body.length c1) (.slice a2 els.length c2)).toArray, .string bl] w _
  rw [← hn1.out, ← hn2.out, ← hn3.out]
  clear hne
  go_enter Tryz.func117, Tryz.ntmps117
  go_wp2_with (first
    | ((with_reducible show wpList _ _ _ _ _ _); refine wpList_box_at rfl 51 (.tmp 1) rfl (st9 5 nm (ex5 op t b enm (.slice ea n3 ec)) (.slice a1 n1 c1) (.slice a2 n2 c2)) rfl ?_; intro w1 hA1 hw1 hs1; clear hs1; refine Hid.out ?_))
  refine hidU ?_
  obtain ⟨q0, q1, q2, q3, q4, q5, q6, q7, q8⟩ := st_cells hA1
  have hold1 := Old.of_below hw1 hBw
  have hA' := hA w1 (HI.out.2.1.old hold1) (HI.out.1.below hw1) (by have := hw1.size; omega) (HI.out.2.2.1.below hw1 (by omega))
  clear hA hold1
  go_wp2_with fail
  refine hA'.mono ?_
  rintro r w2 ⟨rfl, hT2, hW2⟩
  have hw2 : Wr B g w w2 := (Wr.of_below hw1).trans hW2
  have hA2 := hW2.at hA1 (by omega) (by decide)
  clear hA' hA1 hW2 hw1 q0 q1 q2 q3 q4 q5 q6 q7 q8
  obtain ⟨q0, q1, q2, q3, q4, q5, q6, q7, q8⟩ := st_cells hA2
  have hB' := h5Y w2 (HI.out.2.2.2.1.old (Old.of_wr hw2 hBg hBw)) hT2 (by have := hw2.size; omega) (HI.out.2.2.1.wr hw2 hBg hBw h16)
  have hbl2 : ¬ (9223372036854775807 < bl.size + 2) := by omega
  clear h5Y hT2
  go_wp2_with fail
  refine hB'.mono ?_
  rintro r w3 ⟨rfl, hT3, hW3⟩
  have hw3 : Wr B g w w3 := hw2.trans hW3
  have hA3 := hW3.at hA2 (by omega) (by decide)
  clear hB' hA2 hW3 hw2 q0 q1 q2 q3 q4 q5 q6 q7 q8
  obtain ⟨q0, q1, q2, q3, q4, q5, q6, q7, q8⟩ := st_cells hA3
  go_wp2_with (first
    | ((with_reducible show wpList _ _ _ _ _ _); refine wpList_strs rfl 2 #[(0, .tmp 54), (1, .const (.string ⟨#[125, 32, 101, 108, 115, 101, 32, 123, 10]⟩))] rfl [bl, ⟨#[125, 32, 101, 108, 115, 101, 32, 123, 10]⟩] rfl (by decide) (by decide) (by kernel_rfl) ?_; intro w4 hA4 hb4 hs4; clear hs4))
  refine (put_one B g m _ [bl, ⟨#[125, 32, 101, 108, 115, 101, 32, 123, 10]⟩] (bl.data.toList ++ [125, 32, 101, 108, 115, 101, 32, 123, 10]) _ (by simp [cat]) _ hm (hT3.below hb4) hA4 (by have := HL.out; simp only [List.length_append] at this ⊢; omega) (by simp)).mono ?_
  rintro r w5 ⟨rfl, hT5, hW5⟩
  have hw5 : Wr B g w w5 := hw3.trans ((Wr.of_below hb4).trans hW5)
  have hA5 := hW5.at (hA3.below hb4) (by omega) (by decide)
  clear hA3 hW5 hw3 hT3 hA4 hb4 q0 q1 q2 q3 q4 q5 q6 q7 q8
  obtain ⟨q0, q1, q2, q3, q4, q5, q6, q7, q8⟩ := st_cells hA5
  have hB' := h5Z w5 (HI.out.2.2.2.2.old (Old.of_wr hw5 hBg hBw)) hT5 (by have := hw5.size; omega) (HI.out.2.2.1.wr hw5 hBg hBw h16)
  clear h5Z hT5
  go_wp2_with fail
  refine hB'.mono ?_
  rintro r w6 ⟨rfl, hT3, hW6⟩
  have hw3 : Wr B g w w6 := hw5.trans hW6
  clear hB' hA5 hW6 hw5 q0 q1 q2 q3 q4 q5 q6 q7 q8
  go_wp2_with (first
    | ((with_reducible show wpList _ _ _ _ _ _); refine wpList_strs rfl 2 #[(0, .tmp 64), (1, .const (.string ⟨#[125]⟩))] rfl [bl, ⟨#[125]⟩] rfl (by decide) (by decide) (by kernel_rfl) ?_; intro w7 hA7 hb7 hs7; clear hs7))
  refine (put_one B g m _ [bl, ⟨#[125]⟩] (bl.data.toList ++ [125]) _ (by simp [cat]) _ hm (hT3.below hb7) hA7 (by have := HL.out; simp only [List.length_append] at this ⊢; omega) (by simp)).mono ?_
  rintro r w8 ⟨rfl, hT2, hW2⟩
  have HF : Hid (Txt B w8 g m (F ++ (([105, 102, 32] ++ (X ++ [32, 123, 10])) ++ (Y ++ ((bl.data.toList ++ [125, 32, 101, 108, 115, 101, 32, 123, 10] ++ Z) ++ (bl.data.toList ++ [125]))))) ∧ Wr B g w w8) := ⟨by simpa only [List.append_assoc] using hT2, hw3.trans ((Wr.of_below hb7).trans hW2)⟩
  clear hw3 hT3 hA7 hb7
  clear hW2 hT2
  go_wp2
  go_end0
  exact ⟨rfl, HF.out⟩

set_option maxRecDepth 100000 in
set_option maxHeartbeats 3200000 in
theorem stmtT_6 (B g m : Nat) (hm : m ≤ 9223372036854775807) (h16 : gB ≤ B) (nm : ByteArray) (op t b : Nat) (enm : ByteArray) (ea : Option Addr) (ec : Nat) (eks : List ET) (a1 : Option Addr) (c1 : Nat) (body : List ST) (a2 : Option Addr) (c2 : Nat) (els : List ST) (W6Y : BlockWp B g m a1 c1 body) : StmtWp B g m (.mk 6 nm (.mk op t b enm ea ec eks) a1 c1 body a2 c2 els) := by
  intro bl d w F hbl hd hmay hin hT hBw hTab hlen
  have hBg := hT.base
  have hgw := hT.lt
  obtain ⟨X, hX⟩ : ∃ X, Hid (X = exT (ET.mk op t b enm ea ec eks).ex) := ⟨_, (rfl : exT _ = _)⟩
  unfold ST.In at hin
  obtain ⟨hk, he, hb1, hb2⟩ := hin
  obtain ⟨Y, hY⟩ : ∃ Y, Hid (Y = blT (bl.data.toList ++ [32, 32]) (body.map ST.st)) := ⟨_, (rfl : _ = blT (bl.data.toList ++ [32, 32]) (body.map ST.st))⟩
  have htx : stT bl.data.toList (ST.mk 6 nm (ET.mk op t b enm ea ec eks) a1 c1 body a2 c2 els).st = ([119, 104, 105, 108, 101, 32] ++ (X ++ [32, 123, 10])) ++ (Y ++ (bl.data.toList ++ [125])) := by
    rw [hX.out, hY.out]
    show stT bl.data.toList (.mk 6 nm.data.toList (ET.mk op t b enm ea ec eks).ex (ST.sts body) (ST.sts els)) = _
    rw [stT, ST.sts_eq, ST.sts_eq]
    simp
  rw [htx] at hlen ⊢
  clear htx
  obtain ⟨n1, hn1⟩ : ∃ n, Hid (n = body.length) := ⟨_, (rfl : body.length = _)⟩
  obtain ⟨n2, hn2⟩ : ∃ n, Hid (n = els.length) := ⟨_, (rfl : els.length = _)⟩
  obtain ⟨n3, hn3⟩ : ∃ n, Hid (n = eks.length) := ⟨_, (rfl : eks.length = _)⟩
  have hms : mayE 32 (ET.mk op t b enm ea ec eks).ex = true ∧ mayB (d + 1) (body.map ST.st) = true := by
    have h := (show mayS d (.mk 6 nm.data.toList (ET.mk op t b enm ea ec eks).ex (ST.sts body) (ST.sts els)) = true from hmay)
    rw [mayS, ST.sts_eq, ST.sts_eq] at h
    simp at h
    exact ⟨h.2.1, h.2.2.1⟩
  have hme := hms.1
  have hA : ∀ w, (ET.mk op t b enm ea ec eks).In B w → Txt B w g m F → B ≤ w.heap.size → Tab w → Calls Tryz.prog 137 #[.pointer (some ⟨g, 0, none⟩), .string ⟨#[119, 104, 105, 108, 101, 32]⟩, .agg (ex5 op t b enm (.slice ea n3 ec)).toArray, .string ⟨#[32, 123, 10]⟩] w fun r w' => r = .returned (.tuple #[]) ∧ Txt B w' g m (F ++ ([119, 104, 105, 108, 101, 32] ++ (X ++ [32, 123, 10]))) ∧ Wr B g w w' := fun w h1 h2 h3 h4 => by
    rw [hn3.out]
    exact around_any B g m hm h16 _ hme ⟨#[119, 104, 105, 108, 101, 32]⟩ ⟨#[32, 123, 10]⟩ X _ _ hX.out rfl rfl w F h1 h2 h3 h4 (by first | exact hlen | (simp only [List.length_append] at hlen ⊢; omega))
  have h6Y : ∀ w, RowS B w a1 c1 body → Txt B w g m (F ++ ([119, 104, 105, 108, 101, 32] ++ (X ++ [32, 123, 10]))) → B ≤ w.heap.size → Tab w → Calls Tryz.prog 82 #[.pointer (some ⟨g, 0, none⟩), .slice a1 n1 c1, .string (bl ++ ⟨#[32, 32]⟩)] w fun r w' => r = .returned (.tuple #[]) ∧ Txt B w' g m (F ++ ([119, 104, 105, 108, 101, 32] ++ (X ++ [32, 123, 10])) ++ Y) ∧ Wr B g w w' := fun w h1 h2 h3 h4 => by
    have e : Y = blT (bl ++ ⟨#[32, 32]⟩ : ByteArray).data.toList (body.map ST.st) := by rw [hY.out, cat3]
    rw [hn1.out, e]
    exact W6Y (bl ++ ⟨#[32, 32]⟩) (d + 1) w (F ++ ([119, 104, 105, 108, 101, 32] ++ (X ++ [32, 123, 10]))) (by rw [ByteArray.size_append]; show bl.size + 2 + 2 * (33 - (d + 1)) ≤ 1000; omega) hms.2 h1 h2 h3 h4 (by rw [← e]; simp only [List.length_append] at hlen ⊢; omega)
  have HI : Hid (Txt B w g m F ∧ (ET.mk op t b enm ea ec eks).In B w ∧ Tab w ∧ RowS B w a1 c1 body ∧ RowS B w a2 c2 els) := ⟨hT, he, hTab, hb1, hb2⟩
  have HL : Hid ((F ++ (([119, 104, 105, 108, 101, 32] ++ (X ++ [32, 123, 10])) ++ (Y ++ (bl.data.toList ++ [125])))).length ≤ 70368744177664) := hlen
  clear hmay he hb1 hb2 hT hTab hX hY hme hlen hms W6Y
  show Calls Tryz.prog 117 #[.pointer (some ⟨g, 0, none⟩), .agg (st9 6 nm (ex5 op t b enm (.slice ea eks.length ec)) (.slice a1 body.length c1) (.slice a2 els.length c2)).toArray, .string bl] w _
  rw [← hn1.out, ← hn2.out, ← hn3.out]
  go_enter Tryz.func117, Tryz.ntmps117
  go_wp2_with (first
    | ((with_reducible show wpList _ _ _ _ _ _); refine wpList_box_at rfl 51 (.tmp 1) rfl (st9 6 nm (ex5 op t b enm (.slice ea n3 ec)) (.slice a1 n1 c1) (.slice a2 n2 c2)) rfl ?_; intro w1 hA1 hw1 hs1; clear hs1; refine Hid.out ?_))
  refine hidU ?_
  obtain ⟨q0, q1, q2, q3, q4, q5, q6, q7, q8⟩ := st_cells hA1
  have hold1 := Old.of_below hw1 hBw
  have hA' := hA w1 (HI.out.2.1.old hold1) (HI.out.1.below hw1) (by have := hw1.size; omega) (HI.out.2.2.1.below hw1 (by omega))
  clear hA hold1
  go_wp2_with fail
  refine hA'.mono ?_
  rintro r w2 ⟨rfl, hT2, hW2⟩
  have hw2 : Wr B g w w2 := (Wr.of_below hw1).trans hW2
  have hA2 := hW2.at hA1 (by omega) (by decide)
  clear hA' hA1 hW2 hw1 q0 q1 q2 q3 q4 q5 q6 q7 q8
  obtain ⟨q0, q1, q2, q3, q4, q5, q6, q7, q8⟩ := st_cells hA2
  have hB' := h6Y w2 (HI.out.2.2.2.1.old (Old.of_wr hw2 hBg hBw)) hT2 (by have := hw2.size; omega) (HI.out.2.2.1.wr hw2 hBg hBw h16)
  have hbl2 : ¬ (9223372036854775807 < bl.size + 2) := by omega
  clear h6Y hT2
  go_wp2_with fail
  refine hB'.mono ?_
  rintro r w3 ⟨rfl, hT3, hW3⟩
  have hw3 : Wr B g w w3 := hw2.trans hW3
  have hA3 := hW3.at hA2 (by omega) (by decide)
  clear hB' hA2 hW3 hw2 q0 q1 q2 q3 q4 q5 q6 q7 q8
  obtain ⟨q0, q1, q2, q3, q4, q5, q6, q7, q8⟩ := st_cells hA3
  go_wp2_with (first
    | ((with_reducible show wpList _ _ _ _ _ _); refine wpList_strs rfl 2 #[(0, .tmp 80), (1, .const (.string ⟨#[125]⟩))] rfl [bl, ⟨#[125]⟩] rfl (by decide) (by decide) (by kernel_rfl) ?_; intro w7 hA7 hb7 hs7; clear hs7))
  refine (put_one B g m _ [bl, ⟨#[125]⟩] (bl.data.toList ++ [125]) _ (by simp [cat]) _ hm (hT3.below hb7) hA7 (by have := HL.out; simp only [List.length_append] at this ⊢; omega) (by simp)).mono ?_
  rintro r w8 ⟨rfl, hT2, hW2⟩
  have HF : Hid (Txt B w8 g m (F ++ (([119, 104, 105, 108, 101, 32] ++ (X ++ [32, 123, 10])) ++ (Y ++ (bl.data.toList ++ [125])))) ∧ Wr B g w w8) := ⟨by simpa only [List.append_assoc] using hT2, hw3.trans ((Wr.of_below hb7).trans hW2)⟩
  clear hw3 hT3 hA7 hb7
  clear hW2 hT2
  go_wp2
  go_end0
  exact ⟨rfl, HF.out⟩

end Go.Proofs.YtjgggmjjikopeaaGreatDoor

/- Statements and blocks are written. -/
namespace Go.Proofs.YtjgggmjjikopeaaGreatDoor
open Go.RowKit
set_option linter.unusedVariables false

theorem stmt_any (B g m : Nat) (hm : m ≤ 9223372036854775807) (h16 : gB ≤ B) (N : Nat) : ∀ s : ST, SizeOf.sizeOf s < N → StmtWp B g m s := by
  induction N with
  | zero => intro s h; omega
  | succ N ih =>
    rintro ⟨k, nm, ⟨op, t, b, enm, ea, ec, eks⟩, a1, c1, body, a2, c2, els⟩ hN
    have i1 : ∀ s ∈ body, StmtWp B g m s := fun s hs => ih s (by have := ST.sz1 (k := k) (nm := nm) (e := .mk op t b enm ea ec eks) (a1 := a1) (a2 := a2) (c1 := c1) (c2 := c2) (els := els) hs; omega)
    have i2 : ∀ s ∈ els, StmtWp B g m s := fun s hs => ih s (by have := ST.sz2 (k := k) (nm := nm) (e := .mk op t b enm ea ec eks) (a1 := a1) (a2 := a2) (c1 := c1) (c2 := c2) (body := body) hs; omega)
    have w1 : BlockWp B g m a1 c1 body := fun bl d w F hbl hmay hr hT hBw hTab hlen => blockP_of B g m hm h16 body i1 bl d hbl hmay a1 c1 w F hr hT hBw hTab hlen
    have w2 : BlockWp B g m a2 c2 els := fun bl d w F hbl hmay hr hT hBw hTab hlen => blockP_of B g m hm h16 els i2 bl d hbl hmay a2 c2 w F hr hT hBw hTab hlen
    by_cases h1 : k = 1
    · subst h1; exact stmtT_1 B g m hm h16 nm op t b enm ea ec eks a1 c1 body a2 c2 els
    by_cases h2 : k = 2
    · subst h2; exact stmtT_2 B g m hm h16 nm op t b enm ea ec eks a1 c1 body a2 c2 els
    by_cases h3 : k = 3
    · subst h3; exact stmtT_3 B g m hm h16 nm op t b enm ea ec eks a1 c1 body a2 c2 els
    by_cases h4 : k = 4
    · subst h4; exact stmtT_4 B g m hm h16 nm op t b enm ea ec eks a1 c1 body a2 c2 els
    by_cases h5 : k = 5
    · subst h5
      by_cases he : els = []
      · exact stmtT_5n B g m hm h16 nm op t b enm ea ec eks a1 c1 body a2 c2 els w1 w2 he
      · exact stmtT_5e B g m hm h16 nm op t b enm ea ec eks a1 c1 body a2 c2 els w1 w2 he
    by_cases h6 : k = 6
    · subst h6; exact stmtT_6 B g m hm h16 nm op t b enm ea ec eks a1 c1 body a2 c2 els w1
    by_cases h7 : k = 7
    · subst h7; exact stmtT_7 B g m hm h16 nm op t b enm ea ec eks a1 c1 body a2 c2 els
    intro bl d w F hbl hd hmay
    have h : mayS d (.mk k nm.data.toList (ET.mk op t b enm ea ec eks).ex (ST.sts body) (ST.sts els)) = true := hmay
    rw [mayS, if_neg h1, if_neg (by rintro (h | h); exact h2 h; exact h3 h), if_neg h4, if_neg h5, if_neg h6, if_neg h7] at h
    cases h

/-- A block that may be printed is written. -/
theorem block_any (B g m : Nat) (hm : m ≤ 9223372036854775807) (h16 : gB ≤ B) (a : Option Addr) (c : Nat) (ss : List ST) : BlockWp B g m a c ss :=
  fun bl d w F hbl hmay hr hT hBw hTab hlen => blockP_of B g m hm h16 ss (fun s _ => stmt_any B g m hm h16 (SizeOf.sizeOf s + 1) s (by omega)) bl d hbl hmay a c w F hr hT hBw hTab hlen

end Go.Proofs.YtjgggmjjikopeaaGreatDoor

/- Programs are told apart. -/
namespace Go.Proofs.YtjgggmjjikopeaaGreatDoor
open Go.RowKit
set_option linter.unusedVariables false

/-- What telling two statements, two threads apart does. -/
def SameSW (B : Nat) (x : ST) : Prop := ∀ (y : ST) (w : World), x.In B w → y.In B w → B ≤ w.heap.size → Calls Tryz.prog 84 #[.agg x.cells.toArray, .agg y.cells.toArray] w fun r w' => r = .returned (.bool (samS x.st y.st)) ∧ Below w.heap.size w w'
def SameTW (B : Nat) (x : TT) : Prop := ∀ (y : TT) (w : World), x.In B w → y.In B w → B ≤ w.heap.size → Calls Tryz.prog 50 #[.agg x.cells.toArray, .agg y.cells.toArray] w fun r w' => r = .returned (.bool (samT x.th y.th)) ∧ Below w.heap.size w w'

set_option maxRecDepth 100000 in
set_option maxHeartbeats 3200000 in
theorem equalS_of (B : Nat) (xs ys : List ST) (hS : ∀ x ∈ xs, SameSW B x) (a1 a2 : Option Addr) (c1 c2 : Nat) (w : World) (h1 : RowS B w a1 c1 xs) (h2 : RowS B w a2 c2 ys) (hBw : B ≤ w.heap.size) :
    Calls Tryz.prog 83 #[.slice a1 xs.length c1, .slice a2 ys.length c2, .func (.func 84) #[] #[]] w fun r w' => r = .returned (.bool (samSL (xs.map ST.st) (ys.map ST.st))) ∧ Below w.heap.size w w' := by
  obtain ⟨R, hR⟩ : ∃ R, Hid (R = samSL (xs.map ST.st) (ys.map ST.st)) := ⟨_, (rfl : _ = samSL _ _)⟩
  rw [← hR.out]
  obtain ⟨n, hn⟩ : ∃ n, Hid (n = xs.length) := ⟨_, (rfl : xs.length = _)⟩
  obtain ⟨n2, hn2⟩ : ∃ n, Hid (n = ys.length) := ⟨_, (rfl : ys.length = _)⟩
  have hl1 := h1.1
  have hl2 := h2.1
  have hk1 := h1.2.1
  have hk2 := h2.2.1
  rw [← hn.out] at hl1 hk1 ⊢
  rw [← hn2.out] at hl2 hk2 ⊢
  have HS : Hid (∀ x ∈ xs, SameSW B x) := hS
  have HR : Hid (RowS B w a1 c1 xs ∧ RowS B w a2 c2 ys) := ⟨h1, h2⟩
  clear hS h1 h2
  by_cases hnn : n = n2
  · subst hnn
    go_enter Tryz.func83, Tryz.ntmps83
    go_wp2_with fail
    go_loopw [17] (fun j wr => ∃ i : Nat, j = .int .i64 (i : Int) ∧ i ≤ n ∧ Hid (Below w.heap.size w wr ∧ ∀ (q : Nat) (x y : St), q < i → (xs.map ST.st)[q]? = some x → (ys.map ST.st)[q]? = some y → samS x y = true)) (fun j _ => n - (intOf j).toNat)
    case atStart => exact ⟨0, rfl, by omega, Below.refl _ _, fun q x y hq => by omega⟩
    case round =>
      obtain ⟨i, rfl, hi, hX⟩ := hrel
      by_cases hc : i < n
      · obtain ⟨x, hx⟩ : ∃ k, xs[i]? = some k := ⟨xs[i]'(by rw [← hn.out]; exact hc), by rw [List.getElem?_eq_getElem]⟩
        obtain ⟨y, hy⟩ : ∃ k, ys[i]? = some k := ⟨ys[i]'(by rw [← hn2.out]; exact hc), by rw [List.getElem?_eq_getElem]⟩
        obtain ⟨hbw, hall⟩ := hX.out
        have hold : Old B w wr := Old.of_below hbw hBw
        obtain ⟨g1, o1, rfl, hg1, hr1, hx1⟩ := (HR.out.1.old hold).at i x hx
        obtain ⟨g2, o2, rfl, hg2, hr2, hy1⟩ := (HR.out.2.old hold).at i y hy
        have HK : Hid (x.In B wr ∧ y.In B wr ∧ B ≤ wr.heap.size ∧ wr.rangeAt g2 (o2 + i * 9) y.cells) := ⟨hx1, hy1, by have := hbw.size; omega, hr2⟩
        clear hX hx1 hy1 hr2 hold HR
        go_wp2_with (first
          | ((with_reducible show wpList _ _ _ _ _ _); refine wpList_load_mid (P := Tryz.prog) rfl 51 (.tmp 20) rfl g1 (o1 + i * 9) (by first | rfl | (simp; done)) x.cells _ hr1 Tryz.underlying51 rfl (by rw [ST.cells_len]; exact i38) ?_)
          | ((with_reducible show wpList _ _ _ _ _ _); refine wpList_alloc_at rfl 51 rfl _ 9 z38 ?_; intro w2 hA2 hb2 hs2)
          | ((with_reducible show wpList _ _ _ _ _ _); refine wpList_store_at (P := Tryz.prog) rfl 51 (.tmp 8) (.tmp 21) rfl wr.heap.size x.cells rfl rfl 51 _ hA2 (by rw [ST.cells_len]; exact i38) (by rw [ST.cells_len]; rfl) x.one ?_; intro w3 hA3 hb3 hs3; refine Hid.out ?_))
        refine hidU ?_
        have hB3 : Below wr.heap.size wr w3 := hb3.below hb2 (Nat.le_refl _) (by omega)
        obtain ⟨q1, q2, q3, q4⟩ := HK.out
        have hold3 : Old B wr w3 := Old.of_below hB3 q3
        have hr3 : w3.rangeAt g2 (o2 + i * 9) y.cells := Old.range hold3 hg2 q4
        have hw3 : Below w.heap.size w w3 := hbw.trans (hB3.mono hbw.size)
        have hA3' := hA3
        clear hb3 hb2 hA2 hr1 hs2 hs3 q4 hA3
        go_wp2_with (first
          | ((with_reducible show wpList _ _ _ _ _ _); refine wpList_load_mid (P := Tryz.prog) rfl 51 (.tmp 24) rfl g2 (o2 + i * 9) (by first | rfl | (simp; done)) y.cells _ hr3 Tryz.underlying51 rfl (by rw [ST.cells_len]; exact i38) ?_)
          | ((with_reducible show wpList _ _ _ _ _ _); refine wpList_alloc_at rfl 51 rfl _ 9 z38 ?_; intro w4 hA4 hb4 hs4)
          | ((with_reducible show wpList _ _ _ _ _ _); refine wpList_store_at (P := Tryz.prog) rfl 51 (.tmp 9) (.tmp 25) rfl w3.heap.size y.cells rfl rfl 51 _ hA4 (by rw [ST.cells_len]; exact i38) (by rw [ST.cells_len]; rfl) y.one ?_; intro w5 hA5 hb5 hs5; refine Hid.out ?_))
        refine hidU ?_
        have hB5 : Below w3.heap.size w3 w5 := hb5.below hb4 (Nat.le_refl _) (by omega)
        have hA35 := hA3'.below hB5
        have hw5 : Below w.heap.size w w5 := hw3.trans (hB5.mono hw3.size)
        have hold5 : Old B wr w5 := hold3.trans (Old.of_below hB5 (by have := hB3.size; omega))
        have hI := HS.out x (List.mem_of_getElem? hx) y w5 (q1.old hold5) (q2.old hold5) (by have := hw5.size; omega)
        clear hb5 hb4 hA4 hr3 hs4 hs5 hA3' q1 q2 hold3 hold5 HK HS
        go_wp2_with (first
          | ((with_reducible show wpList _ _ _ _ _ _); refine wpList_load_at (P := Tryz.prog) rfl 51 (.tmp 8) rfl wr.heap.size rfl 51 x.cells hA35 _ Tryz.underlying51 rfl (by rw [ST.cells_len]; exact i38) ?_)
          | ((with_reducible show wpList _ _ _ _ _ _); refine wpList_load_at (P := Tryz.prog) rfl 51 (.tmp 9) rfl w3.heap.size rfl 51 y.cells hA5 _ Tryz.underlying51 rfl (by rw [ST.cells_len]; exact i38) ?_))
        refine hI.mono ?_
        rintro r w6 ⟨rfl, hb6⟩
        have hw6 : Below w.heap.size w w6 := hw5.trans (hb6.mono hw5.size)
        clear hI hb6 hw5 hw3 hB3 hB5 hA35 hA5
        cases hM : samS x.st y.st with
        | false =>
          have hRf : R = false := by
            rw [hR.out, Bool.eq_false_iff]
            intro h
            have := ((samSL_iff _ _).1 h).2 i x.st y.st (by rw [List.getElem?_map, hx]; rfl) (by rw [List.getElem?_map, hy]; rfl)
            rw [hM] at this
            cases this
          clear hM
          go_wp2
          go_ret
          exact ⟨by rw [hRf]; rfl, hw6⟩
        | true =>
          go_wp2
          go_roundw
          case rel =>
            refine ⟨i + 1, by go_num, by omega, hw6, fun q u v hq hu hv => ?_⟩
            by_cases hqi : q = i
            · subst hqi
              rw [List.getElem?_map, hx] at hu
              rw [List.getElem?_map, hy] at hv
              simp at hu hv
              subst hu hv
              exact hM
            · exact hall q u v (by omega) hu hv
          case measure => simp [intOf]; omega
      · have hin : i = n := by omega
        obtain ⟨hbw, hall⟩ := hX.out
        have hRt : R = true := by
          rw [hR.out, samSL_iff, List.length_map, List.length_map, ← hn.out, ← hn2.out]
          refine ⟨rfl, fun q u v hu hv => hall q u v ?_ hu hv⟩
          have := (List.getElem?_eq_some_iff.1 hu).1
          rw [List.length_map, ← hn.out] at this
          omega
        clear hX hall hin HR HS
        go_wp2
        go_ret
        exact ⟨by rw [hRt]; rfl, hbw⟩
  · have hne : ((n : Int) == (n2 : Int)) = false := by rw [beq_eq_false_iff_ne]; omega
    have hRf : R = false := by
      rw [hR.out, Bool.eq_false_iff]
      intro h
      have := (samSL_iff _ _).1 h
      rw [List.length_map, List.length_map, ← hn.out, ← hn2.out] at this
      exact hnn this.1
    clear hnn
    go_enter Tryz.func83, Tryz.ntmps83
    go_wp2_with fail
    go_ret
    exact ⟨by rw [hRf]; rfl, Below.refl _ _⟩

set_option maxRecDepth 100000 in
set_option maxHeartbeats 3200000 in
theorem equalT_of (B : Nat) (xs ys : List TT) (hS : ∀ x ∈ xs, SameTW B x) (a1 a2 : Option Addr) (c1 c2 : Nat) (w : World) (h1 : RowT B w a1 c1 xs) (h2 : RowT B w a2 c2 ys) (hBw : B ≤ w.heap.size) :
    Calls Tryz.prog 49 #[.slice a1 xs.length c1, .slice a2 ys.length c2, .func (.func 50) #[] #[]] w fun r w' => r = .returned (.bool ((eqL samT) (xs.map TT.th) (ys.map TT.th))) ∧ Below w.heap.size w w' := by
  obtain ⟨R, hR⟩ : ∃ R, Hid (R = (eqL samT) (xs.map TT.th) (ys.map TT.th)) := ⟨_, (rfl : _ = (eqL samT) _ _)⟩
  rw [← hR.out]
  obtain ⟨n, hn⟩ : ∃ n, Hid (n = xs.length) := ⟨_, (rfl : xs.length = _)⟩
  obtain ⟨n2, hn2⟩ : ∃ n, Hid (n = ys.length) := ⟨_, (rfl : ys.length = _)⟩
  have hl1 := h1.1
  have hl2 := h2.1
  have hk1 := h1.2.1
  have hk2 := h2.2.1
  rw [← hn.out] at hl1 hk1 ⊢
  rw [← hn2.out] at hl2 hk2 ⊢
  have HS : Hid (∀ x ∈ xs, SameTW B x) := hS
  have HR : Hid (RowT B w a1 c1 xs ∧ RowT B w a2 c2 ys) := ⟨h1, h2⟩
  clear hS h1 h2
  by_cases hnn : n = n2
  · subst hnn
    go_enter Tryz.func49, Tryz.ntmps49
    go_wp2_with fail
    go_loopw [17] (fun j wr => ∃ i : Nat, j = .int .i64 (i : Int) ∧ i ≤ n ∧ Hid (Below w.heap.size w wr ∧ ∀ (q : Nat) (x y : Th), q < i → (xs.map TT.th)[q]? = some x → (ys.map TT.th)[q]? = some y → samT x y = true)) (fun j _ => n - (intOf j).toNat)
    case atStart => exact ⟨0, rfl, by omega, Below.refl _ _, fun q x y hq => by omega⟩
    case round =>
      obtain ⟨i, rfl, hi, hX⟩ := hrel
      by_cases hc : i < n
      · obtain ⟨x, hx⟩ : ∃ k, xs[i]? = some k := ⟨xs[i]'(by rw [← hn.out]; exact hc), by rw [List.getElem?_eq_getElem]⟩
        obtain ⟨y, hy⟩ : ∃ k, ys[i]? = some k := ⟨ys[i]'(by rw [← hn2.out]; exact hc), by rw [List.getElem?_eq_getElem]⟩
        obtain ⟨hbw, hall⟩ := hX.out
        have hold : Old B w wr := Old.of_below hbw hBw
        obtain ⟨g1, o1, rfl, hg1, hr1, hx1⟩ := (HR.out.1.old hold).at i x hx
        obtain ⟨g2, o2, rfl, hg2, hr2, hy1⟩ := (HR.out.2.old hold).at i y hy
        have HK : Hid (x.In B wr ∧ y.In B wr ∧ B ≤ wr.heap.size ∧ wr.rangeAt g2 (o2 + i * 3) y.cells) := ⟨hx1, hy1, by have := hbw.size; omega, hr2⟩
        clear hX hx1 hy1 hr2 hold HR
        go_wp2_with (first
          | ((with_reducible show wpList _ _ _ _ _ _); refine wpList_load_mid (P := Tryz.prog) rfl 53 (.tmp 20) rfl g1 (o1 + i * 3) (by first | rfl | (simp; done)) x.cells _ hr1 Tryz.underlying53 rfl i42 ?_)
          | ((with_reducible show wpList _ _ _ _ _ _); refine wpList_alloc_at rfl 53 rfl _ 3 z42 ?_; intro w2 hA2 hb2 hs2)
          | ((with_reducible show wpList _ _ _ _ _ _); refine wpList_store_at (P := Tryz.prog) rfl 53 (.tmp 8) (.tmp 21) rfl wr.heap.size x.cells rfl rfl 53 _ hA2 i42 rfl x.one ?_; intro w3 hA3 hb3 hs3; refine Hid.out ?_))
        refine hidU ?_
        have hB3 : Below wr.heap.size wr w3 := hb3.below hb2 (Nat.le_refl _) (by omega)
        obtain ⟨q1, q2, q3, q4⟩ := HK.out
        have hold3 : Old B wr w3 := Old.of_below hB3 q3
        have hr3 : w3.rangeAt g2 (o2 + i * 3) y.cells := Old.range hold3 hg2 q4
        have hw3 : Below w.heap.size w w3 := hbw.trans (hB3.mono hbw.size)
        have hA3' := hA3
        clear hb3 hb2 hA2 hr1 hs2 hs3 q4 hA3
        go_wp2_with (first
          | ((with_reducible show wpList _ _ _ _ _ _); refine wpList_load_mid (P := Tryz.prog) rfl 53 (.tmp 24) rfl g2 (o2 + i * 3) (by first | rfl | (simp; done)) y.cells _ hr3 Tryz.underlying53 rfl i42 ?_)
          | ((with_reducible show wpList _ _ _ _ _ _); refine wpList_alloc_at rfl 53 rfl _ 3 z42 ?_; intro w4 hA4 hb4 hs4)
          | ((with_reducible show wpList _ _ _ _ _ _); refine wpList_store_at (P := Tryz.prog) rfl 53 (.tmp 9) (.tmp 25) rfl w3.heap.size y.cells rfl rfl 53 _ hA4 i42 rfl y.one ?_; intro w5 hA5 hb5 hs5; refine Hid.out ?_))
        refine hidU ?_
        have hB5 : Below w3.heap.size w3 w5 := hb5.below hb4 (Nat.le_refl _) (by omega)
        have hA35 := hA3'.below hB5
        have hw5 : Below w.heap.size w w5 := hw3.trans (hB5.mono hw3.size)
        have hold5 : Old B wr w5 := hold3.trans (Old.of_below hB5 (by have := hB3.size; omega))
        have hI := HS.out x (List.mem_of_getElem? hx) y w5 (q1.old hold5) (q2.old hold5) (by have := hw5.size; omega)
        clear hb5 hb4 hA4 hr3 hs4 hs5 hA3' q1 q2 hold3 hold5 HK HS
        go_wp2_with (first
          | ((with_reducible show wpList _ _ _ _ _ _); refine wpList_load_at (P := Tryz.prog) rfl 53 (.tmp 8) rfl wr.heap.size rfl 53 x.cells hA35 _ Tryz.underlying53 rfl i42 ?_)
          | ((with_reducible show wpList _ _ _ _ _ _); refine wpList_load_at (P := Tryz.prog) rfl 53 (.tmp 9) rfl w3.heap.size rfl 53 y.cells hA5 _ Tryz.underlying53 rfl i42 ?_))
        refine hI.mono ?_
        rintro r w6 ⟨rfl, hb6⟩
        have hw6 : Below w.heap.size w w6 := hw5.trans (hb6.mono hw5.size)
        clear hI hb6 hw5 hw3 hB3 hB5 hA35 hA5
        cases hM : samT x.th y.th with
        | false =>
          have hRf : R = false := by
            rw [hR.out, Bool.eq_false_iff]
            intro h
            have := ((eqL_iff samT _ _).1 h).2 i x.th y.th (by rw [List.getElem?_map, hx]; rfl) (by rw [List.getElem?_map, hy]; rfl)
            rw [hM] at this
            cases this
          clear hM
          go_wp2
          go_ret
          exact ⟨by rw [hRf]; rfl, hw6⟩
        | true =>
          go_wp2
          go_roundw
          case rel =>
            refine ⟨i + 1, by go_num, by omega, hw6, fun q u v hq hu hv => ?_⟩
            by_cases hqi : q = i
            · subst hqi
              rw [List.getElem?_map, hx] at hu
              rw [List.getElem?_map, hy] at hv
              simp at hu hv
              subst hu hv
              exact hM
            · exact hall q u v (by omega) hu hv
          case measure => simp [intOf]; omega
      · have hin : i = n := by omega
        obtain ⟨hbw, hall⟩ := hX.out
        have hRt : R = true := by
          rw [hR.out, eqL_iff samT, List.length_map, List.length_map, ← hn.out, ← hn2.out]
          refine ⟨rfl, fun q u v hu hv => hall q u v ?_ hu hv⟩
          have := (List.getElem?_eq_some_iff.1 hu).1
          rw [List.length_map, ← hn.out] at this
          omega
        clear hX hall hin HR HS
        go_wp2
        go_ret
        exact ⟨by rw [hRt]; rfl, hbw⟩
  · have hne : ((n : Int) == (n2 : Int)) = false := by rw [beq_eq_false_iff_ne]; omega
    have hRf : R = false := by
      rw [hR.out, Bool.eq_false_iff]
      intro h
      have := (eqL_iff samT _ _).1 h
      rw [List.length_map, List.length_map, ← hn.out, ← hn2.out] at this
      exact hnn this.1
    clear hnn
    go_enter Tryz.func49, Tryz.ntmps49
    go_wp2_with fail
    go_ret
    exact ⟨by rw [hRf]; rfl, Below.refl _ _⟩

end Go.Proofs.YtjgggmjjikopeaaGreatDoor

/- Variables and names are told apart. -/
namespace Go.Proofs.YtjgggmjjikopeaaGreatDoor
open Go.RowKit
set_option linter.unusedVariables false

set_option maxRecDepth 100000 in
set_option maxHeartbeats 3200000 in
theorem equalN_any (B : Nat) (xs ys : List ByteArray) (a1 a2 : Option Addr) (c1 c2 : Nat) (w : World) (h1 : RowN B w a1 c1 xs) (h2 : RowN B w a2 c2 ys) (hBw : B ≤ w.heap.size) :
    Calls Tryz.prog 48 #[.slice a1 xs.length c1, .slice a2 ys.length c2] w fun r w' => r = .returned (.bool (eqL samN (xs.map (fun s : ByteArray => s.data.toList)) (ys.map (fun s : ByteArray => s.data.toList)))) ∧ Below w.heap.size w w' := by
  obtain ⟨R, hR⟩ : ∃ R, Hid (R = eqL samN (xs.map (fun s : ByteArray => s.data.toList)) (ys.map (fun s : ByteArray => s.data.toList))) := ⟨_, (rfl : _ = eqL samN _ _)⟩
  rw [← hR.out]
  obtain ⟨n, hn⟩ : ∃ n, Hid (n = xs.length) := ⟨_, (rfl : xs.length = _)⟩
  obtain ⟨n2, hn2⟩ : ∃ n, Hid (n = ys.length) := ⟨_, (rfl : ys.length = _)⟩
  have hl1 := h1.1
  have hl2 := h2.1
  have hk1 := h1.2.1
  have hk2 := h2.2.1
  rw [← hn.out] at hl1 hk1 ⊢
  rw [← hn2.out] at hl2 hk2 ⊢
  have HR : Hid (RowN B w a1 c1 xs ∧ RowN B w a2 c2 ys) := ⟨h1, h2⟩
  clear h1 h2
  by_cases hnn : n = n2
  · subst hnn
    go_enter Tryz.func48, Tryz.ntmps48
    go_wp2_with fail
    go_loopw [13] (fun j wr => ∃ i : Nat, j = .int .i64 (i : Int) ∧ i ≤ n ∧ Hid (Below w.heap.size w wr ∧ ∀ (q : Nat) (x y : List UInt8), q < i → (xs.map (fun s : ByteArray => s.data.toList))[q]? = some x → (ys.map (fun s : ByteArray => s.data.toList))[q]? = some y → samN x y = true)) (fun j _ => n - (intOf j).toNat)
    case atStart => exact ⟨0, rfl, by omega, Below.refl _ _, fun q x y hq => by omega⟩
    case round =>
      obtain ⟨i, rfl, hi, hX⟩ := hrel
      by_cases hc : i < n
      · obtain ⟨x, hx⟩ : ∃ k, xs[i]? = some k := ⟨xs[i]'(by rw [← hn.out]; exact hc), by rw [List.getElem?_eq_getElem]⟩
        obtain ⟨y, hy⟩ : ∃ k, ys[i]? = some k := ⟨ys[i]'(by rw [← hn2.out]; exact hc), by rw [List.getElem?_eq_getElem]⟩
        obtain ⟨hbw, hall⟩ := hX.out
        have hold : Old B w wr := Old.of_below hbw hBw
        obtain ⟨g1, o1, rfl, hg1, hr1⟩ := (HR.out.1.old hold).at i x hx
        obtain ⟨g2, o2, rfl, hg2, hr2⟩ := (HR.out.2.old hold).at i y hy
        have HA : Hid (∀ (q : Nat) (x y : List UInt8), q < i → (xs.map (fun s : ByteArray => s.data.toList))[q]? = some x → (ys.map (fun s : ByteArray => s.data.toList))[q]? = some y → samN x y = true) := hall
        have HXY : Hid ((xs.map (fun s : ByteArray => s.data.toList))[i]? = some ((fun s : ByteArray => s.data.toList) x) ∧ (ys.map (fun s : ByteArray => s.data.toList))[i]? = some ((fun s : ByteArray => s.data.toList) y)) := ⟨by rw [List.getElem?_map, hx]; rfl, by rw [List.getElem?_map, hy]; rfl⟩
        clear hX hold hall HR hx hy
        cases hM : samN ((fun s : ByteArray => s.data.toList) x) ((fun s : ByteArray => s.data.toList) y) with
        | false =>
          have hRf : R = false := by
            rw [hR.out, Bool.eq_false_iff]
            intro h
            have := ((eqL_iff _ _ _).1 h).2 i _ _ HXY.out.1 HXY.out.2
            rw [hM] at this
            cases this
          have hs : (x.toList == y.toList) = false := by
            rw [toList_bytes, toList_bytes, beq_eq_false_iff_ne]
            exact of_decide_eq_false hM
          clear hM
          go_wp2_with fail
          go_quiet (fail)
          go_wp2_with fail
          go_ret
          exact ⟨by rw [hRf]; rfl, below_drN hbw _⟩
        | true =>
          have HM : Hid (samN ((fun s : ByteArray => s.data.toList) x) ((fun s : ByteArray => s.data.toList) y) = true) := hM
          have hs : (x.toList == y.toList) = true := by
            rw [toList_bytes, toList_bytes, beq_iff_eq]
            exact of_decide_eq_true hM
          clear hM
          go_wp2_with fail
          go_quiet (fail)
          go_wp2_with fail
          go_roundw
          case rel =>
            refine ⟨i + 1, by go_num, by omega, below_drN hbw _, fun q u v hq hu hv => ?_⟩
            by_cases hqi : q = i
            · subst hqi
              rw [HXY.out.1] at hu
              rw [HXY.out.2] at hv
              cases hu
              cases hv
              exact HM.out
            · exact HA.out q u v (by omega) hu hv
          case measure => simp [intOf]; omega
      · have hin : i = n := by omega
        obtain ⟨hbw, hall⟩ := hX.out
        have hRt : R = true := by
          rw [hR.out, eqL_iff, List.length_map, List.length_map, ← hn.out, ← hn2.out]
          refine ⟨rfl, fun q u v hu hv => hall q u v ?_ hu hv⟩
          have := (List.getElem?_eq_some_iff.1 hu).1
          rw [List.length_map, ← hn.out] at this
          omega
        clear hX hall hin HR
        go_wp2
        go_ret
        exact ⟨by rw [hRt]; rfl, hbw⟩
  · have hne : ((n : Int) == (n2 : Int)) = false := by rw [beq_eq_false_iff_ne]; omega
    have hRf : R = false := by
      rw [hR.out, Bool.eq_false_iff]
      intro h
      have := (eqL_iff _ _ _).1 h
      rw [List.length_map, List.length_map, ← hn.out, ← hn2.out] at this
      exact hnn this.1
    clear hnn
    go_enter Tryz.func48, Tryz.ntmps48
    go_wp2_with fail
    go_ret
    exact ⟨by rw [hRf]; rfl, Below.refl _ _⟩

set_option maxRecDepth 100000 in
set_option maxHeartbeats 3200000 in
theorem equalV_any (B : Nat) (xs ys : List VT) (a1 a2 : Option Addr) (c1 c2 : Nat) (w : World) (h1 : RowV B w a1 c1 xs) (h2 : RowV B w a2 c2 ys) (hBw : B ≤ w.heap.size) :
    Calls Tryz.prog 47 #[.slice a1 xs.length c1, .slice a2 ys.length c2] w fun r w' => r = .returned (.bool (eqL samV (xs.map VT.vr) (ys.map VT.vr))) ∧ Below w.heap.size w w' := by
  obtain ⟨R, hR⟩ : ∃ R, Hid (R = eqL samV (xs.map VT.vr) (ys.map VT.vr)) := ⟨_, (rfl : _ = eqL samV _ _)⟩
  rw [← hR.out]
  obtain ⟨n, hn⟩ : ∃ n, Hid (n = xs.length) := ⟨_, (rfl : xs.length = _)⟩
  obtain ⟨n2, hn2⟩ : ∃ n, Hid (n = ys.length) := ⟨_, (rfl : ys.length = _)⟩
  have hl1 := h1.1
  have hl2 := h2.1
  have hk1 := h1.2.1
  have hk2 := h2.2.1
  rw [← hn.out] at hl1 hk1 ⊢
  rw [← hn2.out] at hl2 hk2 ⊢
  have HR : Hid (RowV B w a1 c1 xs ∧ RowV B w a2 c2 ys) := ⟨h1, h2⟩
  clear h1 h2
  by_cases hnn : n = n2
  · subst hnn
    go_enter Tryz.func47, Tryz.ntmps47
    go_wp2_with fail
    go_loopw [13] (fun j wr => ∃ i : Nat, j = .int .i64 (i : Int) ∧ i ≤ n ∧ Hid (Below w.heap.size w wr ∧ ∀ (q : Nat) (x y : Vr), q < i → (xs.map VT.vr)[q]? = some x → (ys.map VT.vr)[q]? = some y → samV x y = true)) (fun j _ => n - (intOf j).toNat)
    case atStart => exact ⟨0, rfl, by omega, Below.refl _ _, fun q x y hq => by omega⟩
    case round =>
      obtain ⟨i, rfl, hi, hX⟩ := hrel
      by_cases hc : i < n
      · obtain ⟨x, hx⟩ : ∃ k, xs[i]? = some k := ⟨xs[i]'(by rw [← hn.out]; exact hc), by rw [List.getElem?_eq_getElem]⟩
        obtain ⟨y, hy⟩ : ∃ k, ys[i]? = some k := ⟨ys[i]'(by rw [← hn2.out]; exact hc), by rw [List.getElem?_eq_getElem]⟩
        obtain ⟨hbw, hall⟩ := hX.out
        have hold : Old B w wr := Old.of_below hbw hBw
        obtain ⟨g1, o1, rfl, hg1, hr1, hi1⟩ := (HR.out.1.old hold).at i x hx
        obtain ⟨g2, o2, rfl, hg2, hr2, hi2⟩ := (HR.out.2.old hold).at i y hy
        obtain ⟨nm, t, b⟩ := x
        obtain ⟨nm', t', b'⟩ := y
        have x0 : wr.cell? ⟨g1, o1 + i * 3, none⟩ = some (.string nm) := by have := hr1 0 _ rfl; simpa using this
        have x1 : wr.cell? ⟨g1, o1 + i * 3 + 1, none⟩ = some (.int .u8 (t : Int)) := hr1 1 _ rfl
        have x2 : wr.cell? ⟨g1, o1 + i * 3 + 2, none⟩ = some (.int .u64 (b : Int)) := hr1 2 _ rfl
        have y0 : wr.cell? ⟨g2, o2 + i * 3, none⟩ = some (.string nm') := by have := hr2 0 _ rfl; simpa using this
        have y1 : wr.cell? ⟨g2, o2 + i * 3 + 1, none⟩ = some (.int .u8 (t' : Int)) := hr2 1 _ rfl
        have y2 : wr.cell? ⟨g2, o2 + i * 3 + 2, none⟩ = some (.int .u64 (b' : Int)) := hr2 2 _ rfl
        have hq := eqV nm t b nm' t' b'
        clear hr1 hr2 hi1 hi2
        have HA : Hid (∀ (q : Nat) (x y : Vr), q < i → (xs.map VT.vr)[q]? = some x → (ys.map VT.vr)[q]? = some y → samV x y = true) := hall
        have HXY : Hid ((xs.map VT.vr)[i]? = some (VT.vr ⟨nm, t, b⟩) ∧ (ys.map VT.vr)[i]? = some (VT.vr ⟨nm', t', b'⟩)) := ⟨by rw [List.getElem?_map, hx]; rfl, by rw [List.getElem?_map, hy]; rfl⟩
        clear hX hold hall HR hx hy
        cases hM : samV (VT.vr ⟨nm, t, b⟩) (VT.vr ⟨nm', t', b'⟩) with
        | false =>
          have hRf : R = false := by
            rw [hR.out, Bool.eq_false_iff]
            intro h
            have := ((eqL_iff _ _ _).1 h).2 i _ _ HXY.out.1 HXY.out.2
            rw [hM] at this
            cases this
          have hq' : ∀ u, (Op.equalIn 10000 48 (.agg #[.string nm, .int .u8 (t : Int), .int .u64 (b : Int)]) (.agg #[.string nm', .int .u8 (t' : Int), .int .u64 (b' : Int)])).run Tryz.prog u = .ok false u := fun u => by rw [hq]; exact congrArg (fun z => Result.ok z u) hM
          clear hq
          clear hM
          go_wp2_with fail
          go_quiet (fail)
          go_wp2_with fail
          go_ret
          exact ⟨by rw [hRf]; rfl, below_drN hbw _⟩
        | true =>
          have HM : Hid (samV (VT.vr ⟨nm, t, b⟩) (VT.vr ⟨nm', t', b'⟩) = true) := hM
          have hq' : ∀ u, (Op.equalIn 10000 48 (.agg #[.string nm, .int .u8 (t : Int), .int .u64 (b : Int)]) (.agg #[.string nm', .int .u8 (t' : Int), .int .u64 (b' : Int)])).run Tryz.prog u = .ok true u := fun u => by rw [hq]; exact congrArg (fun z => Result.ok z u) hM
          clear hq
          clear hM
          go_wp2_with fail
          go_quiet (fail)
          go_wp2_with fail
          go_roundw
          case rel =>
            refine ⟨i + 1, by go_num, by omega, below_drN hbw _, fun q u v hq hu hv => ?_⟩
            by_cases hqi : q = i
            · subst hqi
              rw [HXY.out.1] at hu
              rw [HXY.out.2] at hv
              cases hu
              cases hv
              exact HM.out
            · exact HA.out q u v (by omega) hu hv
          case measure => simp [intOf]; omega
      · have hin : i = n := by omega
        obtain ⟨hbw, hall⟩ := hX.out
        have hRt : R = true := by
          rw [hR.out, eqL_iff, List.length_map, List.length_map, ← hn.out, ← hn2.out]
          refine ⟨rfl, fun q u v hu hv => hall q u v ?_ hu hv⟩
          have := (List.getElem?_eq_some_iff.1 hu).1
          rw [List.length_map, ← hn.out] at this
          omega
        clear hX hall hin HR
        go_wp2
        go_ret
        exact ⟨by rw [hRt]; rfl, hbw⟩
  · have hne : ((n : Int) == (n2 : Int)) = false := by rw [beq_eq_false_iff_ne]; omega
    have hRf : R = false := by
      rw [hR.out, Bool.eq_false_iff]
      intro h
      have := (eqL_iff _ _ _).1 h
      rw [List.length_map, List.length_map, ← hn.out, ← hn2.out] at this
      exact hnn this.1
    clear hnn
    go_enter Tryz.func47, Tryz.ntmps47
    go_wp2_with fail
    go_ret
    exact ⟨by rw [hRf]; rfl, Below.refl _ _⟩
end Go.Proofs.YtjgggmjjikopeaaGreatDoor

/- Statements, threads and programs are told apart. -/
namespace Go.Proofs.YtjgggmjjikopeaaGreatDoor
open Go.RowKit
set_option linter.unusedVariables false

set_option maxRecDepth 100000 in
set_option maxHeartbeats 3200000 in
theorem sameStmt_at (k k' : Int) (nm nm' : ByteArray) (op t b : Nat) (enm : ByteArray) (ea : Option Addr) (n c : Nat) (s1 s2 : Value) (op' t' b' : Nat) (enm' : ByteArray) (ea' : Option Addr) (n' c' : Nat) (s1' s2' : Value) (p3 p4 p5 : Bool) (w : World)
    (h3 : AskB w 118 #[.agg (ex5 op t b enm (.slice ea n c)).toArray, .agg (ex5 op' t' b' enm' (.slice ea' n' c')).toArray] p3) (h4 : AskB w 83 #[s1, s1', .func (.func 84) #[] #[]] p4) (h5 : AskB w 83 #[s2, s2', .func (.func 84) #[] #[]] p5) :
    Calls Tryz.prog 84 #[.agg (st9 k nm (ex5 op t b enm (.slice ea n c)) s1 s2).toArray, .agg (st9 k' nm' (ex5 op' t' b' enm' (.slice ea' n' c')) s1' s2').toArray] w fun r w' => r = .returned (.bool (decide (k = k') && (decide (nm.data.toList = nm'.data.toList) && (p3 && (p4 && p5))))) ∧ Below w.heap.size w w' := by
  obtain ⟨R, hR⟩ : ∃ R, Hid (R = (decide (k = k') && (decide (nm.data.toList = nm'.data.toList) && (p3 && (p4 && p5))))) := ⟨_, (rfl : _ = (decide (k = k') && (decide (nm.data.toList = nm'.data.toList) && (p3 && (p4 && p5)))))⟩
  rw [← hR.out]
  have H3 : Hid (AskB w 118 #[.agg (ex5 op t b enm (.slice ea n c)).toArray, .agg (ex5 op' t' b' enm' (.slice ea' n' c')).toArray] p3) := h3
  have H4 : Hid (AskB w 83 #[s1, s1', .func (.func 84) #[] #[]] p4) := h4
  have H5 : Hid (AskB w 83 #[s2, s2', .func (.func 84) #[] #[]] p5) := h5
  clear h3 h4 h5
  go_enter Tryz.func84, Tryz.ntmps84
  go_wp2_with (first
    | ((with_reducible show wpList _ _ _ _ _ _); refine wpList_box_at rfl 51 (.tmp 0) rfl (st9 k nm (ex5 op t b enm (.slice ea n c)) s1 s2) rfl ?_; intro w1 hA1 hb1 hs1; clear hs1)
    | ((with_reducible show wpList _ _ _ _ _ _); refine wpList_box_at rfl 51 (.tmp 1) rfl (st9 k' nm' (ex5 op' t' b' enm' (.slice ea' n' c')) s1' s2') rfl ?_; intro w2 hA2 hb2 hs2; clear hs2; refine Hid.out ?_))
  refine hidU ?_
  have hA12 := hA1.below hb2
  have hbw : Below w.heap.size w w2 := hb1.trans (hb2.mono hb1.size)
  clear hA1 hb1 hb2
  obtain ⟨q0, q1, q2, q3, q4, q5, q6, q7, q8⟩ := st_cells hA12
  obtain ⟨u0, u1, u2, u3, u4, u5, u6, u7, u8⟩ := st_cells hA2
  by_cases hk : k = k'
  · subst hk
    have hd : decide (k = k) = true := by simp
    rw [hd, Bool.true_and] at hR
    clear hd
    go_wp2_with fail
    · have hs : nm.toList = nm'.toList := by assumption
      rw [toList_bytes, toList_bytes] at hs
      have hs' : decide (nm.data.toList = nm'.data.toList) = true := decide_eq_true hs
      rw [hs', Bool.true_and] at hR
      clear hs hs'
      refine (H3.out _ hbw).mono ?_
      rintro r w3 ⟨rfl, hb3⟩
      have hA3 := hA12.below hb3
      have hA3' := hA2.below hb3
      have hw3 := hbw.trans (hb3.mono hbw.size)
      clear hA12 hA2 hbw hb3 q0 q1 q2 q3 q4 q5 q6 q7 q8 u0 u1 u2 u3 u4 u5 u6 u7 u8
      obtain ⟨q0, q1, q2, q3, q4, q5, q6, q7, q8⟩ := st_cells hA3
      obtain ⟨u0, u1, u2, u3, u4, u5, u6, u7, u8⟩ := st_cells hA3'
      cases p3 with
      | false =>
        go_wp2_with fail
        go_ret
        exact ⟨by rw [hR.out]; rfl, hw3⟩
      | true =>
        go_wp2_with fail
        refine (H4.out _ hw3).mono ?_
        rintro r w4 ⟨rfl, hb4⟩
        have hA4 := hA3.below hb4
        have hA4' := hA3'.below hb4
        have hw4 := hw3.trans (hb4.mono hw3.size)
        clear hA3 hA3' hw3 hb4 q0 q1 q2 q3 q4 q5 q6 q7 q8 u0 u1 u2 u3 u4 u5 u6 u7 u8
        obtain ⟨q0, q1, q2, q3, q4, q5, q6, q7, q8⟩ := st_cells hA4
        obtain ⟨u0, u1, u2, u3, u4, u5, u6, u7, u8⟩ := st_cells hA4'
        cases p4 with
        | false =>
          go_wp2_with fail
          go_ret
          exact ⟨by rw [hR.out]; rfl, hw4⟩
        | true =>
          go_wp2_with fail
          refine (H5.out _ hw4).mono ?_
          rintro r w5 ⟨rfl, hb5⟩
          have hw5 := hw4.trans (hb5.mono hw4.size)
          clear hA4 hA4' hw4 hb5 q0 q1 q2 q3 q4 q5 q6 q7 q8 u0 u1 u2 u3 u4 u5 u6 u7 u8
          go_wp2_with fail
          go_ret
          exact ⟨by rw [hR.out]; rfl, hw5⟩
    · have hs : ¬ nm.toList = nm'.toList := by assumption
      rw [toList_bytes, toList_bytes] at hs
      have hs' : decide (nm.data.toList = nm'.data.toList) = false := decide_eq_false hs
      rw [hs', Bool.false_and] at hR
      clear hs hs'
      go_ret
      exact ⟨by rw [hR.out]; rfl, hbw⟩
  · have e0 : (k == k') = false := by rw [beq_eq_false_iff_ne]; exact hk
    have hd : decide (k = k') = false := by simpa using hk
    rw [hd, Bool.false_and] at hR
    clear hk hd
    go_wp2_with fail
    go_ret
    exact ⟨by rw [hR.out]; rfl, hbw⟩

theorem sameStmt_any (B : Nat) (N : Nat) : ∀ x : ST, SizeOf.sizeOf x < N → SameSW B x := by
  induction N with
  | zero => intro x h; omega
  | succ N ih =>
    rintro ⟨k, nm, ⟨op, t, b, enm, ea, ec, eks⟩, a1, c1, b1, a2, c2, b2⟩ hN ⟨k', nm', ⟨op', t', b', enm', ea', ec', eks'⟩, a1', c1', b1', a2', c2', b2'⟩ w hx hy hBw
    have hS1 : ∀ s ∈ b1, SameSW B s := fun s hs => ih s (by have := ST.sz1 (k := k) (nm := nm) (e := .mk op t b enm ea ec eks) (a1 := a1) (a2 := a2) (c1 := c1) (c2 := c2) (els := b2) hs; omega)
    have hS2 : ∀ s ∈ b2, SameSW B s := fun s hs => ih s (by have := ST.sz2 (k := k) (nm := nm) (e := .mk op t b enm ea ec eks) (a1 := a1) (a2 := a2) (c1 := c1) (c2 := c2) (body := b1) hs; omega)
    unfold ST.In at hx hy
    obtain ⟨_, xe, x1, x2⟩ := hx
    obtain ⟨_, ye, y1, y2⟩ := hy
    have hO : ∀ w', Below w.heap.size w w' → Old B w w' ∧ B ≤ w'.heap.size := fun w' h => ⟨Old.of_below h hBw, by have := h.size; omega⟩
    have := sameStmt_at k k' nm nm' op t b enm ea eks.length ec (.slice a1 b1.length c1) (.slice a2 b2.length c2) op' t' b' enm' ea' eks'.length ec' (.slice a1' b1'.length c1') (.slice a2' b2'.length c2') _ _ _ w
      (fun w' h => sameExpr_any B _ (.mk op t b enm ea ec eks) (Nat.lt_succ_self _) (.mk op' t' b' enm' ea' ec' eks') w' (xe.old (hO w' h).1) (ye.old (hO w' h).1) (hO w' h).2)
      (fun w' h => equalS_of B b1 b1' hS1 a1 a1' c1 c1' w' (RowS.old x1 (hO w' h).1) (RowS.old y1 (hO w' h).1) (hO w' h).2)
      (fun w' h => equalS_of B b2 b2' hS2 a2 a2' c2 c2' w' (RowS.old x2 (hO w' h).1) (RowS.old y2 (hO w' h).1) (hO w' h).2)
    refine this.mono ?_
    rintro r w' ⟨rfl, hb⟩
    refine ⟨?_, hb⟩
    show _ = Ending.returned (.bool (samS (.mk k nm.data.toList _ (ST.sts b1) (ST.sts b2)) (.mk k' nm'.data.toList _ (ST.sts b1') (ST.sts b2'))))
    rw [samS, ST.sts_eq, ST.sts_eq, ST.sts_eq, ST.sts_eq]

end Go.Proofs.YtjgggmjjikopeaaGreatDoor

/- Variables' lines are written. -/
namespace Go.Proofs.YtjgggmjjikopeaaGreatDoor
open Go.RowKit
set_option linter.unusedVariables false

/-- A variable's line. -/
def vrT (wd : List UInt8) (v : Vr) : List UInt8 := wd ++ (v.nm ++ ([32] ++ (tyT v.t ++ ([32, 61, 32] ++ (valTx v.t v.b ++ [59, 10])))))
def vrsT (wd : List UInt8) (vs : List Vr) : List UInt8 := (vs.map (vrT wd)).flatten

set_option maxRecDepth 100000 in
set_option maxHeartbeats 3200000 in
theorem vars_any (B g m : Nat) (hm : m ≤ 9223372036854775807) (h16 : gB ≤ B) (ks : List VT) (wd : ByteArray) (a : Option Addr) (c : Nat) (w : World) (F : List UInt8)
    (hr : RowV B w a c ks) (hT : Txt B w g m F) (hBw : B ≤ w.heap.size) (hTab : Tab w) (hlen : (F ++ vrsT wd.data.toList (ks.map VT.vr)).length ≤ 70368744177664) :
    Calls Tryz.prog 80 #[.pointer (some ⟨g, 0, none⟩), .string wd, .slice a ks.length c] w fun r w' => r = .returned (.tuple #[]) ∧ Txt B w' g m (F ++ vrsT wd.data.toList (ks.map VT.vr)) ∧ Wr B g w w' := by
  have hBg := hT.base
  have hgw := hT.lt
  obtain ⟨n, hn⟩ : ∃ n, Hid (n = ks.length) := ⟨_, (rfl : ks.length = _)⟩
  have hl := hr.1
  have hk := hr.2.1
  rw [← hn.out] at hl hk ⊢
  have HR : Hid (RowV B w a c ks ∧ Txt B w g m F ∧ Tab w) := ⟨hr, hT, hTab⟩
  have HL : Hid ((F ++ vrsT wd.data.toList (ks.map VT.vr)).length ≤ 70368744177664) := hlen
  clear hr hT hTab hlen
  go_enter Tryz.func80, Tryz.ntmps80
  go_wp2_with fail
  go_loopw [12] (fun j wr => ∃ i : Nat, j = .int .i64 (i : Int) ∧ i ≤ n ∧ Hid (Txt B wr g m (F ++ vrsT wd.data.toList ((ks.take i).map VT.vr)) ∧ Wr B g w wr)) (fun j _ => n - (intOf j).toNat)
  case atStart => exact ⟨0, rfl, by omega, by simpa [vrsT] using HR.out.2.1, Wr.refl _ _ _⟩
  case round =>
    obtain ⟨i, rfl, hi, hX⟩ := hrel
    by_cases hc : i < n
    · obtain ⟨s, hs⟩ : ∃ k, ks[i]? = some k := ⟨ks[i]'(by rw [← hn.out]; exact hc), by rw [List.getElem?_eq_getElem]⟩
      obtain ⟨hTr, hWr⟩ := hX.out
      have hold : Old B w wr := Old.of_wr hWr hBg hBw
      obtain ⟨g1, o1, rfl, hg1, hr1, hs1⟩ := (HR.out.1.old hold).at i s hs
      have hgr := hTr.lt
      have htk : vrsT wd.data.toList ((ks.take (i + 1)).map VT.vr) = vrsT wd.data.toList ((ks.take i).map VT.vr) ++ vrT wd.data.toList s.vr := by
        rw [List.take_add_one, hs]
        simp [vrsT]
      have hle : (F ++ vrsT wd.data.toList ((ks.take (i + 1)).map VT.vr)).length ≤ (F ++ vrsT wd.data.toList (ks.map VT.vr)).length := by
        have e : vrsT wd.data.toList (ks.map VT.vr) = vrsT wd.data.toList ((ks.take (i + 1)).map VT.vr) ++ vrsT wd.data.toList ((ks.drop (i + 1)).map VT.vr) := by
          unfold vrsT
          rw [← List.flatten_append, ← List.map_append, ← List.map_append, List.take_append_drop]
        rw [e]
        simp only [List.length_append]
        omega
      obtain ⟨nm, t, b⟩ := s
      obtain ⟨V, hV⟩ : ∃ V, Hid (V = valTx t b) := ⟨_, (rfl : valTx t b = _)⟩
      obtain ⟨O, hO⟩ : ∃ O, Hid (O = valOk t b) := ⟨_, (rfl : valOk t b = _)⟩
      obtain ⟨Y, hY⟩ : ∃ Y, Hid (Y = tyT t) := ⟨_, (rfl : tyT t = _)⟩
      obtain ⟨G, hG⟩ : ∃ G, Hid (G = F ++ vrsT wd.data.toList ((ks.take i).map VT.vr)) := ⟨_, (rfl : _ = F ++ vrsT _ _)⟩
      obtain ⟨X, hXX⟩ : ∃ X, Hid (X = wd.data.toList ++ (nm.data.toList ++ ([32] ++ (Y ++ ([32, 61, 32] ++ (V ++ [59, 10])))))) := ⟨_, (rfl : _ = wd.data.toList ++ (nm.data.toList ++ ([32] ++ (Y ++ ([32, 61, 32] ++ (V ++ [59, 10]))))))⟩
      have HG : Hid (F ++ vrsT wd.data.toList ((ks.take (i + 1)).map VT.vr) = G ++ X) := by
        show _ = _
        rw [htk, hXX.out, hV.out, hY.out, hG.out, List.append_assoc]
        rfl
      have hlen2 : (G ++ X).length ≤ 70368744177664 := by
        have h1 := HL.out
        rw [HG.out] at hle
        omega
      rw [← hG.out] at hTr
      have hVal : ∀ w, Tab w → gB ≤ w.heap.size → Calls Tryz.prog 112 #[.agg [.int .u8 (t : Int), .int .u64 (b : Int)].toArray] w fun e w' => e = .returned (.tuple #[.string ⟨V.toArray⟩, .bool O]) ∧ Below w.heap.size w w' := fun w h1 h2 => by
        rw [hV.out, hO.out]
        exact valueText_any t b hs1.1 hs1.2 w h1 h2
      have hTy : ∀ w, Calls Tryz.prog 115 #[.int .u8 (t : Int)] w fun e w' => e = .returned (.string ⟨Y.toArray⟩) ∧ w' = w := fun w => by rw [hY.out]; exact typeText_any t w
      have HK : Hid (Txt B wr g m G ∧ Wr B g w wr ∧ Tab wr) := ⟨hTr, hWr, HR.out.2.2.wr hWr hBg hBw h16⟩
      have hBr : B ≤ wr.heap.size := by have := hWr.size; omega
      clear hX hs1 hold htk hle hTr hWr hV hO hY hG
      go_wp2_with (first
        | ((with_reducible show wpList _ _ _ _ _ _); refine wpList_load_mid (P := Tryz.prog) rfl 48 (.tmp 14) rfl g1 (o1 + i * 3) (by first | rfl | (simp; done)) (VT.cells ⟨nm, t, b⟩) _ hr1 Tryz.underlying48 rfl i79 ?_)
        | ((with_reducible show wpList _ _ _ _ _ _); refine wpList_alloc_at rfl 48 rfl _ 3 z79 ?_; intro w2 hA2 hb2 hs2)
        | ((with_reducible show wpList _ _ _ _ _ _); refine wpList_store_at (P := Tryz.prog) rfl 48 (.tmp 7) (.tmp 15) rfl wr.heap.size (VT.cells ⟨nm, t, b⟩) rfl rfl 48 _ hA2 i79 rfl (VT.one _) ?_; intro w3 hA3 hb3 hs3; refine Hid.out ?_))
      refine hidU ?_
      have hB3 : Below wr.heap.size wr w3 := hb3.below hb2 (Nat.le_refl _) (by omega)
      have c1 : w3.cell? ⟨wr.heap.size, 1, none⟩ = some (.int .u8 (t : Int)) := by rw [hA3.cell]; rfl
      have c2 : w3.cell? ⟨wr.heap.size, 2, none⟩ = some (.int .u64 (b : Int)) := by rw [hA3.cell]; rfl
      have hA3' := hA3
      have hVal' := hVal w3 (HK.out.2.2.below hB3 (by omega)) (by have := hB3.size; omega)
      clear hb3 hb2 hA2 hr1 hs2 hs3 hA3 hVal
      go_wp2_with fail
      refine hVal'.mono ?_
      rintro r w4 ⟨rfl, hb4⟩
      have hA4 := hA3'.below hb4
      have hw4 : Below wr.heap.size wr w4 := hB3.trans (hb4.mono hB3.size)
      clear hVal' hb4 hB3 hA3' c1 c2
      have c0 : w4.cell? ⟨wr.heap.size, 0, none⟩ = some (.string nm) := by rw [hA4.cell]; rfl
      have c1 : w4.cell? ⟨wr.heap.size, 1, none⟩ = some (.int .u8 (t : Int)) := by rw [hA4.cell]; rfl
      have hP : ∀ W k, Below w4.heap.size w4 W → At 9 W k [.string wd, .string nm, .string ⟨#[32]⟩, .string ⟨Y.toArray⟩, .string ⟨#[32, 61, 32]⟩, .string ⟨V.toArray⟩, .string ⟨#[59, 10]⟩] → Calls Tryz.prog 81 #[.pointer (some ⟨g, 0, none⟩), .slice (some ⟨k, 0, none⟩) 7 7] W fun r w' => r = .returned (.tuple #[]) ∧ Hid (Txt B w' g m (F ++ vrsT wd.data.toList ((ks.take (i + 1)).map VT.vr)) ∧ Wr B g w w') := fun W k hb hA => by
        refine (put_one B g m k [wd, nm, ⟨#[32]⟩, ⟨Y.toArray⟩, ⟨#[32, 61, 32]⟩, ⟨V.toArray⟩, ⟨#[59, 10]⟩] X G (by rw [hXX.out]; simp [cat]) W hm ((HK.out.1.below hw4).below hb) hA hlen2 (by simp)).mono ?_
        rintro r w' ⟨rfl, h1, h2⟩
        refine ⟨rfl, ?_, HK.out.2.1.trans ((Wr.of_below (hw4.trans (hb.mono hw4.size))).trans h2)⟩
        rw [HG.out]
        exact h1
      have HP : Hid (∀ W k, Below w4.heap.size w4 W → At 9 W k [.string wd, .string nm, .string ⟨#[32]⟩, .string ⟨Y.toArray⟩, .string ⟨#[32, 61, 32]⟩, .string ⟨V.toArray⟩, .string ⟨#[59, 10]⟩] → Calls Tryz.prog 81 #[.pointer (some ⟨g, 0, none⟩), .slice (some ⟨k, 0, none⟩) 7 7] W fun r w' => r = .returned (.tuple #[]) ∧ Hid (Txt B w' g m (F ++ vrsT wd.data.toList ((ks.take (i + 1)).map VT.vr)) ∧ Wr B g w w')) := hP
      clear hP hA4 hw4 HK HG hXX hlen2 HL HR
      go_wp2_with fail
      go_region_with (first
        | (go_at_call 115; refine (hTy _).mono ?_; rintro r w' ⟨rfl, rfl⟩)
        | (go_at_call 81; refine (HP.out _ w4.heap.size (by first | exact (Below.drew (Below.refl _ w4)).alloc (Nat.le_refl _) _ | exact Below.drew ((Below.refl _ w4).alloc (Nat.le_refl _) _)) (by exact _root_.Go.heap_alloc_new _ _)).mono ?_; rintro r w5 ⟨rfl, HY⟩))
      all_goals
        (clear HP hTy c0 c1
         go_wp2
         go_roundw
         case rel => exact ⟨i + 1, by go_num, by omega, by assumption⟩
         case measure => simp [intOf]; omega)
    · have hin : i = n := by omega
      have HY : Hid (Txt B wr g m (F ++ vrsT wd.data.toList (ks.map VT.vr)) ∧ Wr B g w wr) := by
        have := hX.out
        rw [hin, hn.out, List.take_length] at this
        exact this
      clear hX hin
      go_wp2
      go_end0
      exact ⟨rfl, HY.out⟩

end Go.Proofs.YtjgggmjjikopeaaGreatDoor

/- A program's text is written. -/
namespace Go.Proofs.YtjgggmjjikopeaaGreatDoor
open Go.RowKit
set_option linter.unusedVariables false

def mxT (m : List UInt8) : List UInt8 := [109, 117, 116, 101, 120, 32] ++ (m ++ [59, 10])
def mxsT (ms : List (List UInt8)) : List UInt8 := (ms.map mxT).flatten
def thT (t : Th) : List UInt8 := ([116, 104, 114, 101, 97, 100, 32] ++ (t.nm ++ [32, 123, 10])) ++ (vrsT [32, 32, 108, 111, 99, 97, 108, 32] t.locals ++ (blT [32, 32] t.body ++ [125, 10]))
def thsT (ts : List Th) : List UInt8 := (ts.map thT).flatten
def pgT (p : Pg) : List UInt8 := vrsT [115, 104, 97, 114, 101, 100, 32] p.shared ++ (mxsT p.mutexes ++ thsT p.threads)

theorem th_cells {w : World} {g : Nat} {nm : ByteArray} {s1 s2 : Value} (h : At 53 w g [.string nm, s1, s2]) : w.cell? ⟨g, 0, none⟩ = some (.string nm) ∧ w.cell? ⟨g, 1, none⟩ = some s1 ∧ w.cell? ⟨g, 2, none⟩ = some s2 := by
  refine ⟨?_, ?_, ?_⟩ <;> (rw [h.cell]; rfl)
theorem flat_take {α : Type} (f : α → List UInt8) (l : List α) (i : Nat) (x : α) (h : l[i]? = some x) : ((l.take (i + 1)).map f).flatten = ((l.take i).map f).flatten ++ f x := by
  rw [List.take_add_one, h]
  simp
theorem flat_le {α : Type} (f : α → List UInt8) (l : List α) (i : Nat) : ((l.take i).map f).flatten.length ≤ (l.map f).flatten.length := by
  conv => rhs; rw [← List.take_append_drop i l]
  rw [List.map_append, List.flatten_append, List.length_append]
  omega

theorem mayT_body (t : TT) (h : mayT t.th = true) : mayB 0 (t.body.map ST.st) = true := by
  unfold mayT at h
  rw [Bool.and_eq_true, Bool.and_eq_true] at h
  exact h.2.2

theorem mayP_threads (p : PT) (h : mayP p.pg = true) : ∀ t ∈ p.threads, mayB 0 (t.body.map ST.st) = true := by
  unfold mayP PT.pg at h
  rw [Bool.and_eq_true, Bool.and_eq_true] at h
  intro t ht
  have h2 := h.2.2
  simp only [List.all_eq_true, List.mem_map, forall_exists_index, and_imp, forall_apply_eq_imp_iff₂] at h2
  exact mayT_body t (h2 t ht)

set_option maxRecDepth 100000 in
set_option maxHeartbeats 3200000 in
theorem program_of (B g m : Nat) (hm : m ≤ 9223372036854775807) (h16 : gB ≤ B) (a1 : Option Addr) (n1 c1 : Nat) (V : List UInt8) (a2 : Option Addr) (c2 : Nat) (ms : List ByteArray) (a3 : Option Addr) (c3 : Nat) (ts : List TT) (w : World) (F : List UInt8)
    (hr2 : RowN B w a2 c2 ms) (hr3 : RowT B w a3 c3 ts) (hT : Txt B w g m F) (hBw : B ≤ w.heap.size) (hTab : Tab w) (hlen : F.length + (V.length + ((mxsT (ms.map (fun s => s.data.toList))).length + (thsT (ts.map TT.th)).length)) ≤ 70368744177664)
    (hVs : ∀ w1, Below w.heap.size w w1 → Calls Tryz.prog 80 #[.pointer (some ⟨g, 0, none⟩), .string ⟨#[115, 104, 97, 114, 101, 100, 32]⟩, .slice a1 n1 c1] w1 fun r w' => r = .returned (.tuple #[]) ∧ Txt B w' g m (F ++ V) ∧ Wr B g w1 w')
    (hLs : ∀ t ∈ ts, ∀ w1 G, Txt B w1 g m G → t.In B w1 → B ≤ w1.heap.size → Tab w1 → (G ++ vrsT [32, 32, 108, 111, 99, 97, 108, 32] (t.locals.map VT.vr)).length ≤ 70368744177664 → Calls Tryz.prog 80 #[.pointer (some ⟨g, 0, none⟩), .string ⟨#[32, 32, 108, 111, 99, 97, 108, 32]⟩, .slice t.a1 t.locals.length t.c1] w1 fun r w' => r = .returned (.tuple #[]) ∧ Txt B w' g m (G ++ vrsT [32, 32, 108, 111, 99, 97, 108, 32] (t.locals.map VT.vr)) ∧ Wr B g w1 w')
    (hBs : ∀ t ∈ ts, ∀ w1 G, Txt B w1 g m G → t.In B w1 → B ≤ w1.heap.size → Tab w1 → (G ++ blT [32, 32] (t.body.map ST.st)).length ≤ 70368744177664 → Calls Tryz.prog 82 #[.pointer (some ⟨g, 0, none⟩), .slice t.a2 t.body.length t.c2, .string ⟨#[32, 32]⟩] w1 fun r w' => r = .returned (.tuple #[]) ∧ Txt B w' g m (G ++ blT [32, 32] (t.body.map ST.st)) ∧ Wr B g w1 w') :
    Calls Tryz.prog 44 #[.pointer (some ⟨g, 0, none⟩), .agg [.slice a1 n1 c1, .slice a2 ms.length c2, .slice a3 ts.length c3].toArray] w fun r w' => r = .returned (.tuple #[]) ∧ Txt B w' g m (F ++ (V ++ (mxsT (ms.map (fun s => s.data.toList)) ++ thsT (ts.map TT.th)))) ∧ Wr B g w w' := by
  have hBg := hT.base
  have hgw := hT.lt
  obtain ⟨n2, hn2⟩ : ∃ n, Hid (n = ms.length) := ⟨_, (rfl : ms.length = _)⟩
  obtain ⟨n3, hn3⟩ : ∃ n, Hid (n = ts.length) := ⟨_, (rfl : ts.length = _)⟩
  have hl2 := hr2.1
  have hk2 := hr2.2.1
  have hl3 := hr3.1
  have hk3 := hr3.2.1
  rw [← hn2.out] at hl2 hk2 ⊢
  rw [← hn3.out] at hl3 hk3 ⊢
  have HI : Hid (RowN B w a2 c2 ms ∧ RowT B w a3 c3 ts ∧ Tab w) := ⟨hr2, hr3, hTab⟩
  have HL : Hid (F.length + (V.length + ((mxsT (ms.map (fun s => s.data.toList))).length + (thsT (ts.map TT.th)).length)) ≤ 70368744177664) := hlen
  have HT : Hid (Txt B w g m F) := hT
  have HS : Hid (∀ t ∈ ts, ∀ w1 G, Txt B w1 g m G → t.In B w1 → B ≤ w1.heap.size → Tab w1 → (G ++ vrsT [32, 32, 108, 111, 99, 97, 108, 32] (t.locals.map VT.vr)).length ≤ 70368744177664 → Calls Tryz.prog 80 #[.pointer (some ⟨g, 0, none⟩), .string ⟨#[32, 32, 108, 111, 99, 97, 108, 32]⟩, .slice t.a1 t.locals.length t.c1] w1 fun r w' => r = .returned (.tuple #[]) ∧ Txt B w' g m (G ++ vrsT [32, 32, 108, 111, 99, 97, 108, 32] (t.locals.map VT.vr)) ∧ Wr B g w1 w') := hLs
  have HB : Hid (∀ t ∈ ts, ∀ w1 G, Txt B w1 g m G → t.In B w1 → B ≤ w1.heap.size → Tab w1 → (G ++ blT [32, 32] (t.body.map ST.st)).length ≤ 70368744177664 → Calls Tryz.prog 82 #[.pointer (some ⟨g, 0, none⟩), .slice t.a2 t.body.length t.c2, .string ⟨#[32, 32]⟩] w1 fun r w' => r = .returned (.tuple #[]) ∧ Txt B w' g m (G ++ blT [32, 32] (t.body.map ST.st)) ∧ Wr B g w1 w') := hBs
  clear hr2 hr3 hT hTab hlen hLs hBs
  go_enter Tryz.func44, Tryz.ntmps44
  go_wp2_with (first
    | ((with_reducible show wpList _ _ _ _ _ _); refine wpList_box_at rfl 26 (.tmp 1) rfl [.slice a1 n1 c1, .slice a2 n2 c2, .slice a3 n3 c3] rfl ?_; intro w1 hA1 hb1 hs1; clear hs1; refine Hid.out ?_))
  refine hidU ?_
  obtain ⟨q0, -, -⟩ := pg_cells hA1
  have hVs' := hVs w1 hb1
  clear hVs
  go_wp2_with fail
  refine hVs'.mono ?_
  rintro r w2 ⟨rfl, hT2, hW2⟩
  have hA2 := hW2.at hA1 (by omega) (by decide)
  have hw2 : Wr B g w w2 := (Wr.of_below hb1).trans hW2
  clear hVs' hA1 hb1 hW2 q0
  obtain ⟨-, q1, -⟩ := pg_cells hA2
  have H0 : Hid (Txt B w2 g m (F ++ V) ∧ Wr B g w w2 ∧ At 26 w2 w.heap.size [.slice a1 n1 c1, .slice a2 n2 c2, .slice a3 n3 c3]) := ⟨hT2, hw2, hA2⟩
  clear hT2 hw2 hA2
  go_wp2_with fail
  go_loopw [15] (fun j wr => ∃ i : Nat, j = .int .i64 (i : Int) ∧ i ≤ n2 ∧ Hid (Txt B wr g m (F ++ V ++ mxsT ((ms.take i).map (fun s => s.data.toList))) ∧ Wr B g w wr ∧ At 26 wr w.heap.size [.slice a1 n1 c1, .slice a2 n2 c2, .slice a3 n3 c3])) (fun j _ => n2 - (intOf j).toNat)
  case atStart => exact ⟨0, rfl, by omega, by simpa [mxsT] using H0.out.1, H0.out.2⟩
  case round =>
    obtain ⟨i, rfl, hi, hX⟩ := hrel
    by_cases hc : i < n2
    · obtain ⟨s, hs⟩ : ∃ k, ms[i]? = some k := ⟨ms[i]'(by rw [← hn2.out]; exact hc), by rw [List.getElem?_eq_getElem]⟩
      obtain ⟨hTr, hWr, hAr⟩ := hX.out
      have hold : Old B w wr := Old.of_wr hWr hBg hBw
      obtain ⟨g1, o1, rfl, hg1, hcs⟩ := (HI.out.1.old hold).at i s hs
      have htk : mxsT ((ms.take (i + 1)).map (fun s => s.data.toList)) = mxsT ((ms.take i).map (fun s => s.data.toList)) ++ mxT s.data.toList := by
        unfold mxsT
        rw [List.map_map, List.map_map, flat_take _ ms i s hs]
        rfl
      have hle : (mxsT ((ms.take (i + 1)).map (fun s => s.data.toList))).length ≤ (mxsT (ms.map (fun s => s.data.toList))).length := by
        unfold mxsT
        rw [List.map_map, List.map_map]
        exact flat_le _ ms (i + 1)
      obtain ⟨G, hG⟩ : ∃ G, Hid (G = F ++ V ++ mxsT ((ms.take i).map (fun s => s.data.toList))) := ⟨_, (rfl : _ = F ++ V ++ mxsT ((ms.take i).map (fun s => s.data.toList)))⟩
      have hln : (G ++ mxT s.data.toList).length ≤ 70368744177664 := by
        have h1 := HL.out
        rw [htk, List.length_append] at hle
        rw [hG.out]
        simp only [List.length_append]
        omega
      have HG : Hid (F ++ V ++ mxsT ((ms.take (i + 1)).map (fun s => s.data.toList)) = G ++ mxT s.data.toList) := by
        show _ = _
        rw [htk, hG.out, List.append_assoc, List.append_assoc, List.append_assoc]
      have HK : Hid (Txt B wr g m G ∧ Wr B g w wr ∧ At 26 wr w.heap.size [.slice a1 n1 c1, .slice (some ⟨g1, o1, none⟩) n2 c2, .slice a3 n3 c3]) := ⟨by rw [hG.out]; exact hTr, hWr, hAr⟩
      clear hX hTr hWr hAr hold htk hle hG H0
      go_wp2_with (first
        | ((with_reducible show wpList _ _ _ _ _ _); refine wpList_strs rfl 3 #[(0, .const (.string ⟨#[109, 117, 116, 101, 120, 32]⟩)), (1, .tmp 20), (2, .const (.string ⟨#[59, 10]⟩))] rfl [⟨#[109, 117, 116, 101, 120, 32]⟩, s, ⟨#[59, 10]⟩] rfl (by decide) (by decide) (by kernel_rfl) ?_; intro w4 hA4 hb4 hs4; clear hs4))
      refine (put_one B g m _ [⟨#[109, 117, 116, 101, 120, 32]⟩, s, ⟨#[59, 10]⟩] (mxT s.data.toList) G (by simp [cat, mxT]) _ hm (HK.out.1.below hb4) hA4 hln (by simp)).mono ?_
      rintro r w5 ⟨rfl, hT5, hW5⟩
      have HF : Hid (Txt B w5 g m (F ++ V ++ mxsT ((ms.take (i + 1)).map (fun s => s.data.toList))) ∧ Wr B g w w5 ∧ At 26 w5 w.heap.size [.slice a1 n1 c1, .slice (some ⟨g1, o1, none⟩) n2 c2, .slice a3 n3 c3]) := by
        refine ⟨by rw [HG.out]; exact hT5, HK.out.2.1.trans ((Wr.of_below hb4).trans hW5), hW5.at (HK.out.2.2.below hb4) (by omega) (by decide)⟩
      clear hT5 hW5 hA4 hb4 HK HG hln hcs
      go_wp2
      go_roundw
      case rel => exact ⟨i + 1, by go_num, by omega, HF⟩
      case measure => simp [intOf]; omega
    · have hin : i = n2 := by omega
      obtain ⟨hTr, hWr, hAr⟩ := hX.out
      obtain ⟨M, hMM⟩ : ∃ M, Hid (M = F ++ V ++ mxsT (ms.map (fun s => s.data.toList))) := ⟨_, (rfl : _ = F ++ V ++ mxsT (ms.map (fun s => s.data.toList)))⟩
      rw [hin, hn2.out, List.take_length, ← hMM.out] at hTr
      have hML : M.length = F.length + V.length + (mxsT (ms.map (fun s => s.data.toList))).length := by rw [hMM.out]; simp only [List.length_append]
      have H1 : Hid (Txt B wr g m M ∧ Wr B g w wr) := ⟨hTr, hWr⟩
      obtain ⟨-, -, q2⟩ := pg_cells hAr
      clear hX hTr hWr hAr H0 hin
      go_wp2_with fail
      go_loopw [27] (fun j wr => ∃ i : Nat, j = .int .i64 (i : Int) ∧ i ≤ n3 ∧ Hid (Txt B wr g m (M ++ thsT ((ts.take i).map TT.th)) ∧ Wr B g w wr)) (fun j _ => n3 - (intOf j).toNat)
      case atStart => exact ⟨0, rfl, by omega, by simpa [thsT] using H1.out.1, H1.out.2⟩
      case round =>
        clear H1 q2
        obtain ⟨i, rfl, hi, hX⟩ := hrel
        by_cases hc : i < n3
        · obtain ⟨t, ht⟩ : ∃ k, ts[i]? = some k := ⟨ts[i]'(by rw [← hn3.out]; exact hc), by rw [List.getElem?_eq_getElem]⟩
          obtain ⟨hTr, hWr⟩ := hX.out
          have hold : Old B w wr := Old.of_wr hWr hBg hBw
          have hBr : B ≤ wr.heap.size := by have := hWr.size; omega
          have hgr := hTr.lt
          obtain ⟨g1, o1, rfl, hg1, hr1, hin1⟩ := (HI.out.2.1.old hold).at i t ht
          have hTb := HI.out.2.2.wr hWr hBg hBw h16
          have htk : thsT ((ts.take (i + 1)).map TT.th) = thsT ((ts.take i).map TT.th) ++ thT t.th := by
            unfold thsT
            rw [List.map_map, List.map_map, flat_take _ ts i t ht]
            rfl
          have hle : (thsT ((ts.take (i + 1)).map TT.th)).length ≤ (thsT (ts.map TT.th)).length := by
            unfold thsT
            rw [List.map_map, List.map_map]
            exact flat_le _ ts (i + 1)
          have hLt := HS.out t (List.mem_of_getElem? ht)
          have hBt := HB.out t (List.mem_of_getElem? ht)
          have hone := t.one
          obtain ⟨nm, b1, d1, locals, b2, d2, body⟩ := t
          obtain ⟨L, hL⟩ : ∃ L, Hid (L = vrsT [32, 32, 108, 111, 99, 97, 108, 32] (locals.map VT.vr)) := ⟨_, (rfl : _ = vrsT [32, 32, 108, 111, 99, 97, 108, 32] (locals.map VT.vr))⟩
          obtain ⟨K, hK⟩ : ∃ K, Hid (K = blT [32, 32] (body.map ST.st)) := ⟨_, (rfl : _ = blT [32, 32] (body.map ST.st))⟩
          obtain ⟨q, hq⟩ : ∃ q, Hid (q = locals.length) := ⟨_, (rfl : locals.length = _)⟩
          obtain ⟨k, hk⟩ : ∃ k, Hid (k = body.length) := ⟨_, (rfl : body.length = _)⟩
          simp only [TT.cells] at hr1 hone
          simp only [← hL.out, ← hK.out, ← hq.out, ← hk.out] at hLt hBt hr1 hone
          obtain ⟨P, hP⟩ : ∃ P, Hid (P = [116, 104, 114, 101, 97, 100, 32] ++ (nm.data.toList ++ [32, 123, 10])) := ⟨_, (rfl : _ = [116, 104, 114, 101, 97, 100, 32] ++ (nm.data.toList ++ [32, 123, 10]))⟩
          obtain ⟨G, hG⟩ : ∃ G, Hid (G = M ++ thsT ((ts.take i).map TT.th)) := ⟨_, (rfl : _ = M ++ thsT _)⟩
          have HG : Hid (M ++ thsT ((ts.take (i + 1)).map TT.th) = G ++ P ++ L ++ K ++ [125, 10]) := by
            show _ = _
            rw [htk, hG.out]
            simp only [thT, TT.th, hL.out, hK.out, hP.out, List.append_assoc]
          have hln : (G ++ P ++ L ++ K ++ [125, 10]).length ≤ 70368744177664 := by
            have h1 := HL.out
            rw [← HG.out, List.length_append, hML]
            omega
          have hl1 : (G ++ P).length ≤ 70368744177664 := by simp only [List.length_append] at hln ⊢; omega
          have hl4 : (G ++ P ++ L).length ≤ 70368744177664 := by simp only [List.length_append] at hln ⊢; omega
          have hl5 : (G ++ P ++ L ++ K).length ≤ 70368744177664 := by simp only [List.length_append] at hln ⊢; omega
          rw [← hG.out] at hTr
          have HK : Hid (Txt B wr g m G ∧ Wr B g w wr ∧ Tab wr ∧ TT.In B wr ⟨nm, b1, d1, locals, b2, d2, body⟩) := ⟨hTr, hWr, hTb, hin1⟩
          clear hX hold htk hle hTr hWr hTb hin1 hL hK hq hk hG
          go_wp2_with (first
            | ((with_reducible show wpList _ _ _ _ _ _); refine wpList_load_mid (P := Tryz.prog) rfl 53 (.tmp 29) rfl g1 (o1 + i * 3) (by first | rfl | (simp; done)) [.string nm, .slice b1 q d1, .slice b2 k d2] _ hr1 Tryz.underlying53 rfl i42 ?_)
            | ((with_reducible show wpList _ _ _ _ _ _); refine wpList_alloc_at rfl 53 rfl _ 3 z42 ?_; intro w2 hA2 hb2 hs2)
            | ((with_reducible show wpList _ _ _ _ _ _); refine wpList_store_at (P := Tryz.prog) rfl 53 (.tmp 7) (.tmp 30) rfl wr.heap.size [.string nm, .slice b1 q d1, .slice b2 k d2] rfl rfl 53 _ hA2 i42 rfl hone ?_; intro w3 hA3 hb3 hs3; refine Hid.out ?_))
          refine hidU ?_
          have hB3 : Below wr.heap.size wr w3 := hb3.below hb2 (Nat.le_refl _) (by omega)
          obtain ⟨u0, -, -⟩ := th_cells hA3
          clear hb3 hb2 hA2 hr1 hs2 hs3 hone
          go_wp2_with (first
            | ((with_reducible show wpList _ _ _ _ _ _); refine wpList_strs rfl 3 #[(0, .const (.string ⟨#[116, 104, 114, 101, 97, 100, 32]⟩)), (1, .tmp 33), (2, .const (.string ⟨#[32, 123, 10]⟩))] rfl [⟨#[116, 104, 114, 101, 97, 100, 32]⟩, nm, ⟨#[32, 123, 10]⟩] rfl (by decide) (by decide) (by kernel_rfl) ?_; intro w4 hA4 hb4 hs4; clear hs4))
          refine (put_one B g m _ [⟨#[116, 104, 114, 101, 97, 100, 32]⟩, nm, ⟨#[32, 123, 10]⟩] P G (by rw [hP.out]; simp [cat]) _ hm ((HK.out.1.below hB3).below hb4) hA4 hl1 (by simp)).mono ?_
          rintro r w5 ⟨rfl, hT5, hW5⟩
          have hwr5 : Wr B g wr w5 := (Wr.of_below hB3).trans ((Wr.of_below hb4).trans hW5)
          have hA5 := hW5.at (hA3.below hb4) (by omega) (by decide)
          obtain ⟨-, u1, -⟩ := th_cells hA5
          have hL5 := hLt w5 (G ++ P) hT5 (HK.out.2.2.2.old (Old.of_wr hwr5 hBg hBr)) (by have := hwr5.size; omega) (HK.out.2.2.1.wr hwr5 hBg hBr h16) hl4
          clear hLt hT5 hW5 hA4 hb4 hA3 hB3 u0
          go_wp2_with fail
          refine hL5.mono ?_
          rintro r w6 ⟨rfl, hT6, hW6⟩
          have hwr6 : Wr B g wr w6 := hwr5.trans hW6
          have hA6 := hW6.at hA5 (by omega) (by decide)
          obtain ⟨-, -, u2⟩ := th_cells hA6
          have hB6 := hBt w6 (G ++ P ++ L) hT6 (HK.out.2.2.2.old (Old.of_wr hwr6 hBg hBr)) (by have := hwr6.size; omega) (HK.out.2.2.1.wr hwr6 hBg hBr h16) hl5
          clear hL5 hT6 hW6 hA5 u1 hBt hwr5
          go_wp2_with fail
          refine hB6.mono ?_
          rintro r w7 ⟨rfl, hT7, hW7⟩
          have hwr7 : Wr B g wr w7 := hwr6.trans hW7
          clear hB6 hW7 hA6 u2 hwr6
          go_wp2_with (first
            | ((with_reducible show wpList _ _ _ _ _ _); refine wpList_strs rfl 1 #[(0, .const (.string ⟨#[125, 10]⟩))] rfl [⟨#[125, 10]⟩] rfl (by decide) (by decide) (by kernel_rfl) ?_; intro w8 hA8 hb8 hs8; clear hs8))
          refine (put_one B g m _ [⟨#[125, 10]⟩] [125, 10] (G ++ P ++ L ++ K) (by simp [cat]) _ hm (hT7.below hb8) hA8 hln (by simp)).mono ?_
          rintro r w9 ⟨rfl, hT9, hW9⟩
          have HF : Hid (Txt B w9 g m (M ++ thsT ((ts.take (i + 1)).map TT.th)) ∧ Wr B g w w9) := by
            refine ⟨by rw [HG.out]; exact hT9, HK.out.2.1.trans (hwr7.trans ((Wr.of_below hb8).trans hW9))⟩
          clear hT9 hW9 hA8 hb8 hwr7 HK HG hln hT7
          go_wp2
          go_roundw
          case rel => exact ⟨i + 1, by go_num, by omega, HF⟩
          case measure => simp [intOf]; omega
        · have hin : i = n3 := by omega
          obtain ⟨hTr, hWr⟩ := hX.out
          rw [hin, hn3.out, List.take_length, hMM.out] at hTr
          have HY : Hid (Txt B wr g m (F ++ (V ++ (mxsT (ms.map (fun s => s.data.toList)) ++ thsT (ts.map TT.th)))) ∧ Wr B g w wr) := by
            refine ⟨?_, hWr⟩
            simpa only [List.append_assoc] using hTr
          clear hX hTr hWr hin
          go_wp2
          go_end0
          exact ⟨rfl, HY.out⟩

theorem programT_any (B g m : Nat) (hm : m ≤ 9223372036854775807) (h16 : gB ≤ B) (p : PT) (hmay : mayP p.pg = true) (w : World) (F : List UInt8)
    (hin : p.In B w) (hT : Txt B w g m F) (hBw : B ≤ w.heap.size) (hTab : Tab w) (hlen : (F ++ pgT p.pg).length ≤ 70368744177664) :
    Calls Tryz.prog 44 #[.pointer (some ⟨g, 0, none⟩), .agg p.cells.toArray] w fun r w' => r = .returned (.tuple #[]) ∧ Txt B w' g m (F ++ pgT p.pg) ∧ Wr B g w w' := by
  have hth := mayP_threads p hmay
  obtain ⟨h1, h2, h3⟩ := hin
  have hpl : F.length + ((vrsT [115, 104, 97, 114, 101, 100, 32] (p.shared.map VT.vr)).length + ((mxsT (p.mutexes.map (fun s => s.data.toList))).length + (thsT (p.threads.map TT.th)).length)) ≤ 70368744177664 := by
    have := hlen
    unfold pgT PT.pg at this
    simpa only [List.length_append] using this
  exact program_of B g m hm h16 p.a1 p.shared.length p.c1 (vrsT [115, 104, 97, 114, 101, 100, 32] (p.shared.map VT.vr)) p.a2 p.c2 p.mutexes p.a3 p.c3 p.threads w F h2 h3 hT hBw hTab hpl
    (fun w1 hb => vars_any B g m hm h16 p.shared ⟨#[115, 104, 97, 114, 101, 100, 32]⟩ p.a1 p.c1 w1 F (h1.old (Old.of_below hb hBw)) (hT.below hb) (by have := hb.size; omega) (hTab.below hb (by omega)) (by show (F ++ vrsT [115, 104, 97, 114, 101, 100, 32] (p.shared.map VT.vr)).length ≤ _; rw [List.length_append]; omega))
    (fun t ht w1 G h h' h'' h3 h4 => vars_any B g m hm h16 t.locals ⟨#[32, 32, 108, 111, 99, 97, 108, 32]⟩ t.a1 t.c1 w1 G h'.1 h h'' h3 h4)
    (fun t ht w1 G h h' h'' h3 h4 => block_any B g m hm h16 t.a2 t.c2 t.body ⟨#[32, 32]⟩ 0 w1 G (by decide) (hth t ht) h'.2 h h'' h3 h4)

end Go.Proofs.YtjgggmjjikopeaaGreatDoor

/- tree.Same. -/
namespace Go.Proofs.YtjgggmjjikopeaaGreatDoor
open Go.RowKit
set_option linter.unusedVariables false

set_option maxRecDepth 100000 in
set_option maxHeartbeats 1600000 in
theorem sameThread_at (nm nm' : ByteArray) (s1 s2 s1' s2' : Value) (p2 p3 : Bool) (w : World) (h2 : AskB w 47 #[s1, s1'] p2) (h3 : AskB w 83 #[s2, s2', .func (.func 84) #[] #[]] p3) :
    Calls Tryz.prog 50 #[.agg [.string nm, s1, s2].toArray, .agg [.string nm', s1', s2'].toArray] w fun r w' => r = .returned (.bool (decide (nm.data.toList = nm'.data.toList) && (p2 && p3))) ∧ Below w.heap.size w w' := by
  obtain ⟨R, hR⟩ : ∃ R, Hid (R = (decide (nm.data.toList = nm'.data.toList) && (p2 && p3))) := ⟨_, (rfl : _ = (decide (nm.data.toList = nm'.data.toList) && (p2 && p3)))⟩
  rw [← hR.out]
  have H2 : Hid (AskB w 47 #[s1, s1'] p2) := h2
  have H3 : Hid (AskB w 83 #[s2, s2', .func (.func 84) #[] #[]] p3) := h3
  clear h2 h3
  go_enter Tryz.func50, Tryz.ntmps50
  go_wp2_with (first
    | ((with_reducible show wpList _ _ _ _ _ _); refine wpList_box_at rfl 53 (.tmp 0) rfl [.string nm, s1, s2] rfl ?_; intro w1 hA1 hb1 hs1; clear hs1)
    | ((with_reducible show wpList _ _ _ _ _ _); refine wpList_box_at rfl 53 (.tmp 1) rfl [.string nm', s1', s2'] rfl ?_; intro w2 hA2 hb2 hs2; clear hs2; refine Hid.out ?_))
  refine hidU ?_
  have hA12 := hA1.below hb2
  have hbw : Below w.heap.size w w2 := hb1.trans (hb2.mono hb1.size)
  clear hA1 hb1 hb2
  obtain ⟨q0, q1, q2⟩ := th_cells hA12
  obtain ⟨u0, u1, u2⟩ := th_cells hA2
  go_wp2_with fail
  · have hs : nm.toList = nm'.toList := by assumption
    rw [toList_bytes, toList_bytes] at hs
    have hs' : decide (nm.data.toList = nm'.data.toList) = true := decide_eq_true hs
    rw [hs', Bool.true_and] at hR
    clear hs hs'
    refine (H2.out _ hbw).mono ?_
    rintro r w3 ⟨rfl, hb3⟩
    have hA3 := hA12.below hb3
    have hA3' := hA2.below hb3
    have hw3 := hbw.trans (hb3.mono hbw.size)
    clear hA12 hA2 hbw hb3 q0 q1 q2 u0 u1 u2
    obtain ⟨q0, q1, q2⟩ := th_cells hA3
    obtain ⟨u0, u1, u2⟩ := th_cells hA3'
    cases p2 with
    | false =>
      go_wp2_with fail
      go_ret
      exact ⟨by rw [hR.out]; rfl, hw3⟩
    | true =>
      go_wp2_with fail
      refine (H3.out _ hw3).mono ?_
      rintro r w4 ⟨rfl, hb4⟩
      have hw4 := hw3.trans (hb4.mono hw3.size)
      clear hA3 hA3' hw3 hb4 q0 q1 q2 u0 u1 u2
      go_wp2_with fail
      go_ret
      exact ⟨by rw [hR.out]; rfl, hw4⟩
  · have hs : ¬ nm.toList = nm'.toList := by assumption
    rw [toList_bytes, toList_bytes] at hs
    have hs' : decide (nm.data.toList = nm'.data.toList) = false := decide_eq_false hs
    rw [hs', Bool.false_and] at hR
    clear hs hs'
    go_ret
    exact ⟨by rw [hR.out]; rfl, hbw⟩

theorem sameThread_any (B : Nat) (x : TT) : SameTW B x := by
  obtain ⟨nm, a1, c1, ls, a2, c2, bs⟩ := x
  rintro ⟨nm', a1', c1', ls', a2', c2', bs'⟩ w hx hy hBw
  have hO : ∀ w', Below w.heap.size w w' → Old B w w' ∧ B ≤ w'.heap.size := fun w' h => ⟨Old.of_below h hBw, by have := h.size; omega⟩
  exact sameThread_at nm nm' (.slice a1 ls.length c1) (.slice a2 bs.length c2) (.slice a1' ls'.length c1') (.slice a2' bs'.length c2') _ _ w
    (fun w' h => equalV_any B ls ls' a1 a1' c1 c1' w' (hx.1.old (hO w' h).1) (hy.1.old (hO w' h).1) (hO w' h).2)
    (fun w' h => equalS_of B bs bs' (fun s _ => sameStmt_any B _ s (Nat.lt_succ_self _)) a2 a2' c2 c2' w' (hx.2.old (hO w' h).1) (hy.2.old (hO w' h).1) (hO w' h).2)

set_option maxRecDepth 100000 in
set_option maxHeartbeats 1600000 in
theorem same_at (s1 s2 s3 s1' s2' s3' : Value) (p1 p2 p3 : Bool) (w : World) (h1 : AskB w 47 #[s1, s1'] p1) (h2 : AskB w 48 #[s2, s2'] p2) (h3 : AskB w 49 #[s3, s3', .func (.func 50) #[] #[]] p3) :
    Calls Tryz.prog 21 #[.agg [s1, s2, s3].toArray, .agg [s1', s2', s3'].toArray] w fun r w' => r = .returned (.bool (p1 && (p2 && p3))) ∧ Below w.heap.size w w' := by
  obtain ⟨R, hR⟩ : ∃ R, Hid (R = (p1 && (p2 && p3))) := ⟨_, (rfl : _ = (p1 && (p2 && p3)))⟩
  rw [← hR.out]
  have H1 : Hid (AskB w 47 #[s1, s1'] p1) := h1
  have H2 : Hid (AskB w 48 #[s2, s2'] p2) := h2
  have H3 : Hid (AskB w 49 #[s3, s3', .func (.func 50) #[] #[]] p3) := h3
  clear h1 h2 h3
  go_enter Tryz.func21, Tryz.ntmps21
  go_wp2_with (first
    | ((with_reducible show wpList _ _ _ _ _ _); refine wpList_box_at rfl 26 (.tmp 0) rfl [s1, s2, s3] rfl ?_; intro w1 hA1 hb1 hs1; clear hs1)
    | ((with_reducible show wpList _ _ _ _ _ _); refine wpList_box_at rfl 26 (.tmp 1) rfl [s1', s2', s3'] rfl ?_; intro w2 hA2 hb2 hs2; clear hs2; refine Hid.out ?_))
  refine hidU ?_
  have hA12 := hA1.below hb2
  have hbw : Below w.heap.size w w2 := hb1.trans (hb2.mono hb1.size)
  clear hA1 hb1 hb2
  obtain ⟨q0, q1, q2⟩ := pg_cells hA12
  obtain ⟨u0, u1, u2⟩ := pg_cells hA2
  go_wp2_with fail
  refine (H1.out _ hbw).mono ?_
  rintro r w3 ⟨rfl, hb3⟩
  have hA3 := hA12.below hb3
  have hA3' := hA2.below hb3
  have hw3 := hbw.trans (hb3.mono hbw.size)
  clear hA12 hA2 hbw hb3 q0 q1 q2 u0 u1 u2
  obtain ⟨q0, q1, q2⟩ := pg_cells hA3
  obtain ⟨u0, u1, u2⟩ := pg_cells hA3'
  cases p1 with
  | false =>
    go_wp2_with fail
    go_ret
    exact ⟨by rw [hR.out]; rfl, hw3⟩
  | true =>
    go_wp2_with fail
    refine (H2.out _ hw3).mono ?_
    rintro r w4 ⟨rfl, hb4⟩
    have hA4 := hA3.below hb4
    have hA4' := hA3'.below hb4
    have hw4 := hw3.trans (hb4.mono hw3.size)
    clear hA3 hA3' hw3 hb4 q0 q1 q2 u0 u1 u2
    obtain ⟨q0, q1, q2⟩ := pg_cells hA4
    obtain ⟨u0, u1, u2⟩ := pg_cells hA4'
    cases p2 with
    | false =>
      go_wp2_with fail
      go_ret
      exact ⟨by rw [hR.out]; rfl, hw4⟩
    | true =>
      go_wp2_with fail
      refine (H3.out _ hw4).mono ?_
      rintro r w5 ⟨rfl, hb5⟩
      have hw5 := hw4.trans (hb5.mono hw4.size)
      clear hA4 hA4' hw4 hb5 q0 q1 q2 u0 u1 u2
      go_wp2_with fail
      go_ret
      exact ⟨by rw [hR.out]; rfl, hw5⟩

theorem same_any (B : Nat) (x y : PT) (w : World) (hx : x.In B w) (hy : y.In B w) (hBw : B ≤ w.heap.size) :
    Calls Tryz.prog 21 #[.agg x.cells.toArray, .agg y.cells.toArray] w fun r w' => r = .returned (.bool (samP x.pg y.pg)) ∧ Below w.heap.size w w' := by
  have hO : ∀ w', Below w.heap.size w w' → Old B w w' ∧ B ≤ w'.heap.size := fun w' h => ⟨Old.of_below h hBw, by have := h.size; omega⟩
  exact same_at (.slice x.a1 x.shared.length x.c1) (.slice x.a2 x.mutexes.length x.c2) (.slice x.a3 x.threads.length x.c3) (.slice y.a1 y.shared.length y.c1) (.slice y.a2 y.mutexes.length y.c2) (.slice y.a3 y.threads.length y.c3) _ _ _ w
    (fun w' h => equalV_any B x.shared y.shared x.a1 y.a1 x.c1 y.c1 w' (hx.1.old (hO w' h).1) (hy.1.old (hO w' h).1) (hO w' h).2)
    (fun w' h => equalN_any B x.mutexes y.mutexes x.a2 y.a2 x.c2 y.c2 w' (hx.2.1.old (hO w' h).1) (hy.2.1.old (hO w' h).1) (hO w' h).2)
    (fun w' h => equalT_of B x.threads y.threads (fun t _ => sameThread_any B t) x.a3 y.a3 x.c3 y.c3 w' (hx.2.2.old (hO w' h).1) (hy.2.2.old (hO w' h).1) (hO w' h).2)

end Go.Proofs.YtjgggmjjikopeaaGreatDoor
