/- Joined texts of the proof. -/
import Derived.Test.YtcmahiphfpgadaaGreatDoorJ10

/- Prepared for layer 5, no program is named: statements' lines tell them apart. -/
namespace Go.Proofs.YtcmahiphfpgadaaGreatDoor
set_option linter.unusedVariables false
section
variable {prX : Ex → Option (List UInt8)} {isName : List UInt8 → Bool} {isNo : Ex → Bool}

theorem line_eq {d : Nat} {w w' : List UInt8} {c c' : UInt8} {q q' r r' : List UInt8} (hw : ∀ u ∈ w, tokch u = true) (hw' : ∀ u ∈ w', tokch u = true) (hc : tokch c = false) (hc' : tokch c' = false)
    (h : (mg d ++ (w ++ c :: q)) ++ r = (mg d ++ (w' ++ c' :: q')) ++ r') : w = w' ∧ c = c' ∧ q ++ r = q' ++ r' := by
  simp only [List.append_assoc, List.cons_append] at h
  exact run_eq w w' c c' (q ++ r) (q' ++ r') hw hw' hc hc' (List.append_cancel_left h)

theorem mg_cut (d : Nat) : mg d = List.replicate (2 * d) 32 ++ [32, 32] := by
  rw [mg, show ([32, 32] : List UInt8) = List.replicate 2 32 from rfl, List.replicate_append_replicate]

set_option maxHeartbeats 1600000 in
theorem stmts_apart (F : FitsS prX isName isNo) : ∀ n,
    (∀ s, SizeOf.sizeOf s < n → ∀ (d : Nat) (s' : St) (x y r r' : List UInt8), prS prX isName isNo d s = some x → prS prX isName isNo d s' = some y → x ++ r = y ++ r' → s = s' ∧ x = y ∧ r = r') ∧
    (∀ l, SizeOf.sizeOf l < n → ∀ (d : Nat) (l' : List St) (x y r r' : List UInt8), prL prX isName isNo d l = some x → prL prX isName isNo d l' = some y → Term d r → Term d r' → x ++ r = y ++ r' → l = l' ∧ x = y ∧ r = r') := by
  intro n
  induction n with
  | zero => exact ⟨fun s h => by omega, fun l h => by omega⟩
  | succ n ih =>
    obtain ⟨ihS, ihL⟩ := ih
    have hST : ∀ s, SizeOf.sizeOf s < n + 1 → ∀ (d : Nat) (s' : St) (x y r r' : List UInt8), prS prX isName isNo d s = some x → prS prX isName isNo d s' = some y → x ++ r = y ++ r' → s = s' ∧ x = y ∧ r = r' := by
      intro s hn d s' x y r r' hsx hsy h
      have sa := shapeS_of prX isName isNo d s x hsx
      have sb := shapeS_of prX isName isNo d s' y hsy
      clear hsx hsy
      cases sa with
      | assign nm1 e1 x1 hn1 hx1 =>
        cases sb with
        | assign nm2 e2 x2 hn2 hx2 =>
          obtain ⟨hw, hc, hq⟩ := line_eq (F.nameTok _ hn1).2 (F.nameTok _ hn2).2 (by decide) (by decide) h
          subst hw
          simp only [List.cons_append, List.cons.injEq, true_and, List.append_assoc, List.nil_append] at hq
          obtain ⟨rfl, rfl, h2⟩ := F.xApart _ _ _ _ _ _ hx1 hx2 ⟨59, _, rfl, .inr (.inr rfl)⟩ ⟨59, _, rfl, .inr (.inr rfl)⟩ hq
          simp only [List.cons.injEq, true_and] at h2
          exact ⟨rfl, rfl, h2⟩
        | lk k2 w2 nm2 e2 hk2 hn2 he2 =>
          obtain ⟨hw, hc, hq⟩ := line_eq (F.nameTok _ hn1).2 (lk_tok hk2) (by decide) (by decide) h
          exfalso
          rcases hk2 with ⟨_, rfl⟩ | ⟨_, rfl⟩
          · rw [hw, F.kLock] at hn1; cases hn1
          · rw [hw, F.kUnlock] at hn1; cases hn1
        | asrt e2 x2 hx2 =>
          obtain ⟨hw, hc, hq⟩ := line_eq (F.nameTok _ hn1).2 (by decide) (by decide) (by decide) h
          exfalso; rw [hw, F.kAssert] at hn1; cases hn1
        | iff e2 body2 els2 x2 y2 z2 hx2 hy2 hz2 =>
          obtain ⟨hw, hc, hq⟩ := line_eq (F.nameTok _ hn1).2 (by decide) (by decide) (by decide) h
          exfalso; rw [hw, F.kIf] at hn1; cases hn1
        | whl e2 body2 x2 y2 hx2 hy2 =>
          obtain ⟨hw, hc, hq⟩ := line_eq (F.nameTok _ hn1).2 (by decide) (by decide) (by decide) h
          exfalso; rw [hw, F.kWhile] at hn1; cases hn1
        | skp e2 he2 =>
          obtain ⟨hw, hc, hq⟩ := line_eq (F.nameTok _ hn1).2 (by decide) (by decide) (by decide) h
          exfalso; rw [hw, F.kSkip] at hn1; cases hn1
      | lk k1 w1 nm1 e1 hk1 hn1 he1 =>
        cases sb with
        | assign nm2 e2 x2 hn2 hx2 =>
          obtain ⟨hw, hc, hq⟩ := line_eq (lk_tok hk1) (F.nameTok _ hn2).2 (by decide) (by decide) h
          exfalso
          rcases hk1 with ⟨_, rfl⟩ | ⟨_, rfl⟩
          · rw [← hw, F.kLock] at hn2; cases hn2
          · rw [← hw, F.kUnlock] at hn2; cases hn2
        | lk k2 w2 nm2 e2 hk2 hn2 he2 =>
          obtain ⟨hw, hc, hq⟩ := line_eq (lk_tok hk1) (lk_tok hk2) (by decide) (by decide) h
          simp only [List.cons_append, List.append_assoc, List.nil_append] at hq
          obtain ⟨rfl, _, h2⟩ := run_eq nm1 nm2 59 59 _ _ (F.nameTok _ hn1).2 (F.nameTok _ hn2).2 (by decide) (by decide) hq
          obtain rfl := F.noOne _ _ he1 he2
          simp only [List.cons.injEq, true_and] at h2
          rcases hk1 with ⟨rfl, rfl⟩ | ⟨rfl, rfl⟩ <;> rcases hk2 with ⟨rfl, h3⟩ | ⟨rfl, h3⟩
          · subst h3; exact ⟨rfl, rfl, h2⟩
          · rw [h3] at hw; simp at hw
          · rw [h3] at hw; simp at hw
          · subst h3; exact ⟨rfl, rfl, h2⟩
        | asrt e2 x2 hx2 =>
          obtain ⟨hw, hc, hq⟩ := line_eq (lk_tok hk1) (by decide) (by decide) (by decide) h
          exfalso; rcases hk1 with ⟨_, rfl⟩ | ⟨_, rfl⟩ <;> simp at hw
        | iff e2 body2 els2 x2 y2 z2 hx2 hy2 hz2 =>
          obtain ⟨hw, hc, hq⟩ := line_eq (lk_tok hk1) (by decide) (by decide) (by decide) h
          exfalso; rcases hk1 with ⟨_, rfl⟩ | ⟨_, rfl⟩ <;> simp at hw
        | whl e2 body2 x2 y2 hx2 hy2 =>
          obtain ⟨hw, hc, hq⟩ := line_eq (lk_tok hk1) (by decide) (by decide) (by decide) h
          exfalso; rcases hk1 with ⟨_, rfl⟩ | ⟨_, rfl⟩ <;> simp at hw
        | skp e2 he2 =>
          obtain ⟨hw, hc, hq⟩ := line_eq (lk_tok hk1) (by decide) (by decide) (by decide) h
          exfalso; rcases hk1 with ⟨_, rfl⟩ | ⟨_, rfl⟩ <;> simp at hw
      | asrt e1 x1 hx1 =>
        cases sb with
        | assign nm2 e2 x2 hn2 hx2 =>
          obtain ⟨hw, hc, hq⟩ := line_eq (by decide) (F.nameTok _ hn2).2 (by decide) (by decide) h
          exfalso; rw [← hw, F.kAssert] at hn2; cases hn2
        | lk k2 w2 nm2 e2 hk2 hn2 he2 =>
          obtain ⟨hw, hc, hq⟩ := line_eq (by decide) (lk_tok hk2) (by decide) (by decide) h
          exfalso; rcases hk2 with ⟨_, rfl⟩ | ⟨_, rfl⟩ <;> simp at hw
        | asrt e2 x2 hx2 =>
          obtain ⟨hw, hc, hq⟩ := line_eq (by decide) (by decide) (by decide) (by decide) h
          simp only [List.cons_append, List.append_assoc, List.nil_append] at hq
          obtain ⟨rfl, rfl, h2⟩ := F.xApart _ _ _ _ _ _ hx1 hx2 ⟨59, _, rfl, .inr (.inr rfl)⟩ ⟨59, _, rfl, .inr (.inr rfl)⟩ hq
          simp only [List.cons.injEq, true_and] at h2
          exact ⟨rfl, rfl, h2⟩
        | iff e2 body2 els2 x2 y2 z2 hx2 hy2 hz2 =>
          obtain ⟨hw, hc, hq⟩ := line_eq (by decide) (by decide) (by decide) (by decide) h
          simp at hw
        | whl e2 body2 x2 y2 hx2 hy2 =>
          obtain ⟨hw, hc, hq⟩ := line_eq (by decide) (by decide) (by decide) (by decide) h
          simp at hw
        | skp e2 he2 =>
          obtain ⟨hw, hc, hq⟩ := line_eq (by decide) (by decide) (by decide) (by decide) h
          simp at hw
      | iff e1 body1 els1 x1 y1 z1 hx1 hy1 hz1 =>
        cases sb with
        | assign nm2 e2 x2 hn2 hx2 =>
          obtain ⟨hw, hc, hq⟩ := line_eq (by decide) (F.nameTok _ hn2).2 (by decide) (by decide) h
          exfalso; rw [← hw, F.kIf] at hn2; cases hn2
        | lk k2 w2 nm2 e2 hk2 hn2 he2 =>
          obtain ⟨hw, hc, hq⟩ := line_eq (by decide) (lk_tok hk2) (by decide) (by decide) h
          exfalso; rcases hk2 with ⟨_, rfl⟩ | ⟨_, rfl⟩ <;> simp at hw
        | asrt e2 x2 hx2 =>
          obtain ⟨hw, hc, hq⟩ := line_eq (by decide) (by decide) (by decide) (by decide) h
          simp at hw
        | iff e2 body2 els2 x2 y2 z2 hx2 hy2 hz2 =>
          obtain ⟨hw, hc, hq⟩ := line_eq (by decide) (by decide) (by decide) (by decide) h
          have hs : SizeOf.sizeOf body1 < n := by simp at hn; omega
          have hs2 : SizeOf.sizeOf els1 < n := by simp at hn; omega
          simp only [List.cons_append, List.append_assoc, List.nil_append] at hq
          obtain ⟨rfl, rfl, h2⟩ := F.xApart _ _ _ _ _ _ hx1 hx2 ⟨32, _, rfl, .inl rfl⟩ ⟨32, _, rfl, .inl rfl⟩ hq
          simp only [List.cons.injEq, true_and] at h2
          obtain ⟨rfl, rfl, h3⟩ := ihL body1 hs (d + 1) body2 _ _ _ _ hy1 hy2 (mg_term d _) (mg_term d _) h2
          have h4 := List.append_cancel_left h3
          simp only [List.cons.injEq, true_and] at h4
          cases els1 with
          | nil =>
            cases els2 with
            | nil => simp at h4; exact ⟨rfl, by simp, h4⟩
            | cons u v => simp at h4
          | cons u v =>
            cases els2 with
            | nil => simp at h4
            | cons u' v' =>
              simp only [List.isEmpty_cons, Bool.false_eq_true, if_false, List.cons_append, List.append_assoc, List.nil_append, List.cons.injEq, true_and] at h4
              obtain ⟨h5, rfl, h6⟩ := ihL (u :: v) hs2 (d + 1) (u' :: v') _ _ _ _ hz1 hz2 (mg_term d _) (mg_term d _) h4
              rw [← h5]
              have h7 := List.append_cancel_left h6
              simp only [List.cons.injEq, true_and] at h7
              exact ⟨rfl, rfl, h7⟩
        | whl e2 body2 x2 y2 hx2 hy2 =>
          obtain ⟨hw, hc, hq⟩ := line_eq (by decide) (by decide) (by decide) (by decide) h
          simp at hw
        | skp e2 he2 =>
          obtain ⟨hw, hc, hq⟩ := line_eq (by decide) (by decide) (by decide) (by decide) h
          simp at hw
      | whl e1 body1 x1 y1 hx1 hy1 =>
        cases sb with
        | assign nm2 e2 x2 hn2 hx2 =>
          obtain ⟨hw, hc, hq⟩ := line_eq (by decide) (F.nameTok _ hn2).2 (by decide) (by decide) h
          exfalso; rw [← hw, F.kWhile] at hn2; cases hn2
        | lk k2 w2 nm2 e2 hk2 hn2 he2 =>
          obtain ⟨hw, hc, hq⟩ := line_eq (by decide) (lk_tok hk2) (by decide) (by decide) h
          exfalso; rcases hk2 with ⟨_, rfl⟩ | ⟨_, rfl⟩ <;> simp at hw
        | asrt e2 x2 hx2 =>
          obtain ⟨hw, hc, hq⟩ := line_eq (by decide) (by decide) (by decide) (by decide) h
          simp at hw
        | iff e2 body2 els2 x2 y2 z2 hx2 hy2 hz2 =>
          obtain ⟨hw, hc, hq⟩ := line_eq (by decide) (by decide) (by decide) (by decide) h
          simp at hw
        | whl e2 body2 x2 y2 hx2 hy2 =>
          obtain ⟨hw, hc, hq⟩ := line_eq (by decide) (by decide) (by decide) (by decide) h
          have hs : SizeOf.sizeOf body1 < n := by simp at hn; omega
          simp only [List.cons_append, List.append_assoc, List.nil_append] at hq
          obtain ⟨rfl, rfl, h2⟩ := F.xApart _ _ _ _ _ _ hx1 hx2 ⟨32, _, rfl, .inl rfl⟩ ⟨32, _, rfl, .inl rfl⟩ hq
          simp only [List.cons.injEq, true_and] at h2
          obtain ⟨rfl, rfl, h3⟩ := ihL body1 hs (d + 1) body2 _ _ _ _ hy1 hy2 (mg_term d _) (mg_term d _) h2
          have h4 := List.append_cancel_left h3
          simp only [List.cons.injEq, true_and] at h4
          exact ⟨rfl, rfl, h4⟩
        | skp e2 he2 =>
          obtain ⟨hw, hc, hq⟩ := line_eq (by decide) (by decide) (by decide) (by decide) h
          simp at hw
      | skp e1 he1 =>
        cases sb with
        | assign nm2 e2 x2 hn2 hx2 =>
          obtain ⟨hw, hc, hq⟩ := line_eq (by decide) (F.nameTok _ hn2).2 (by decide) (by decide) h
          exfalso; rw [← hw, F.kSkip] at hn2; cases hn2
        | lk k2 w2 nm2 e2 hk2 hn2 he2 =>
          obtain ⟨hw, hc, hq⟩ := line_eq (by decide) (lk_tok hk2) (by decide) (by decide) h
          exfalso; rcases hk2 with ⟨_, rfl⟩ | ⟨_, rfl⟩ <;> simp at hw
        | asrt e2 x2 hx2 =>
          obtain ⟨hw, hc, hq⟩ := line_eq (by decide) (by decide) (by decide) (by decide) h
          simp at hw
        | iff e2 body2 els2 x2 y2 z2 hx2 hy2 hz2 =>
          obtain ⟨hw, hc, hq⟩ := line_eq (by decide) (by decide) (by decide) (by decide) h
          simp at hw
        | whl e2 body2 x2 y2 hx2 hy2 =>
          obtain ⟨hw, hc, hq⟩ := line_eq (by decide) (by decide) (by decide) (by decide) h
          simp at hw
        | skp e2 he2 =>
          obtain ⟨hw, hc, hq⟩ := line_eq (by decide) (by decide) (by decide) (by decide) h
          obtain rfl := F.noOne _ _ he1 he2
          simp only [List.cons_append, List.nil_append, List.cons.injEq, true_and] at hq
          exact ⟨rfl, rfl, hq⟩
    refine ⟨hST, ?_⟩
    intro l hn d l' x y r r' hlx hly hr hr' h
    cases l with
    | nil =>
      simp only [prL] at hlx
      injection hlx with hlx
      subst hlx
      cases l' with
      | nil =>
        simp only [prL] at hly
        injection hly with hly
        subst hly
        exact ⟨rfl, rfl, by simpa using h⟩
      | cons s q =>
        exfalso
        simp only [prL] at hly
        split at hly
        · cases hly
        · split at hly
          · next a b ha hb =>
            injection hly with hly
            subst hly
            obtain ⟨w, c, z, rfl⟩ := shapeS_word F (shapeS_of prX isName isNo d s a ha)
            obtain ⟨t, rfl⟩ := hr
            rw [mg_cut] at h
            simp only [List.nil_append, List.append_assoc] at h
            have := List.append_cancel_left h
            simp at this
          · cases hly
    | cons s q =>
      simp only [prL] at hlx
      split at hlx
      · cases hlx
      · split at hlx
        · next a b ha hb =>
          injection hlx with hlx
          subst hlx
          cases l' with
          | nil =>
            exfalso
            simp only [prL] at hly
            injection hly with hly
            subst hly
            obtain ⟨w, c, z, rfl⟩ := shapeS_word F (shapeS_of prX isName isNo d s a ha)
            obtain ⟨t, rfl⟩ := hr'
            rw [mg_cut] at h
            simp only [List.nil_append, List.append_assoc] at h
            have := List.append_cancel_left h
            simp at this
          | cons s' q' =>
            simp only [prL] at hly
            split at hly
            · cases hly
            · split at hly
              · next a' b' ha' hb' =>
                injection hly with hly
                subst hly
                rw [List.append_assoc, List.append_assoc] at h
                have h1 : SizeOf.sizeOf s < n + 1 := by simp at hn; omega
                have h2 : SizeOf.sizeOf q < n := by simp at hn; omega
                obtain ⟨rfl, rfl, h3⟩ := hST s h1 d s' a a' _ _ ha ha' h
                obtain ⟨rfl, rfl, rfl⟩ := ihL q h2 d q' b b' r r' hb hb' hr hr' h3
                exact ⟨rfl, rfl, rfl⟩
              · cases hly
        · cases hlx
end
end Go.Proofs.YtcmahiphfpgadaaGreatDoor

/- Prepared for layer 5, no program is named: a program's text tells it apart from any other. -/
namespace Go.Proofs.YtcmahiphfpgadaaGreatDoor
set_option linter.unusedVariables false

/-- A variable, a thread, a program, as data. -/
structure Vr where
  nm : List UInt8
  t : Nat
  b : Nat
structure Th where
  nm : List UInt8
  locals : List Vr
  body : List St
structure Pg where
  shared : List Vr
  mutexes : List (List UInt8)
  threads : List Th

/-- A type's text. -/
def tyW (t : Nat) : List UInt8 := if t = 2 then [98, 111, 111, 108] else if t = 3 then [114, 101, 97, 108] else [105, 110, 116]

theorem tyW_tok (t : Nat) : ∀ c ∈ tyW t, tokch c = true := by
  unfold tyW; split
  · decide
  · split <;> decide

/-- The texts of a list, one behind the other. -/
def prAll {α : Type} (f : α → Option (List UInt8)) : List α → Option (List UInt8)
  | [] => some []
  | a :: r => match f a, prAll f r with
    | some x, some y => some (x ++ y)
    | _, _ => none

/-- Lists of things whose texts tell them apart, and begin as nothing behind them does, are told apart. -/
theorem all_apart {α : Type} (f : α → Option (List UInt8)) (B : List UInt8 → Prop)
    (hb : ∀ a x r, f a = some x → B (x ++ r)) (hap : ∀ a a' x y r r', f a = some x → f a' = some y → x ++ r = y ++ r' → a = a' ∧ x = y ∧ r = r') :
    ∀ (l l' : List α) (x y r r' : List UInt8), prAll f l = some x → prAll f l' = some y → ¬ B r → ¬ B r' → x ++ r = y ++ r' → l = l' ∧ x = y ∧ r = r'
  | [], [], x, y, r, r', hx, hy, _, _, h => by
    simp only [prAll, Option.some.injEq] at hx hy
    subst hx hy
    exact ⟨rfl, rfl, by simpa using h⟩
  | [], a :: q, x, y, r, r', hx, hy, hr, _, h => by
    exfalso
    simp only [prAll, Option.some.injEq] at hx hy
    subst hx
    split at hy
    · next u v hu hv =>
      injection hy with hy
      subst hy
      rw [List.append_assoc] at h
      refine hr ?_
      have := hb a u (v ++ r') hu
      rw [← h] at this
      exact this
    · cases hy
  | a :: q, [], x, y, r, r', hx, hy, _, hr', h => by
    exfalso
    simp only [prAll, Option.some.injEq] at hx hy
    subst hy
    split at hx
    · next u v hu hv =>
      injection hx with hx
      subst hx
      rw [List.append_assoc] at h
      refine hr' ?_
      have := hb a u (v ++ r) hu
      rw [h] at this
      exact this
    · cases hx
  | a :: q, a' :: q', x, y, r, r', hx, hy, hr, hr', h => by
    simp only [prAll] at hx hy
    split at hx
    · next u v hu hv =>
      injection hx with hx
      subst hx
      split at hy
      · next u' v' hu' hv' =>
        injection hy with hy
        subst hy
        rw [List.append_assoc, List.append_assoc] at h
        obtain ⟨rfl, rfl, h1⟩ := hap a a' u u' _ _ hu hu' h
        obtain ⟨rfl, rfl, rfl⟩ := all_apart f B hb hap q q' v v' r r' hv hv' hr hr' h1
        exact ⟨rfl, rfl, rfl⟩
      · cases hy
    · cases hx

section
variable (prX : Ex → Option (List UInt8)) (isName : List UInt8 → Bool) (isNo : Ex → Bool) (vtx : Nat → Nat → Option (List UInt8))

/-- A variable's line, behind its word. -/
def prV (w : List UInt8) (v : Vr) : Option (List UInt8) :=
  match vtx v.t v.b with
  | some x => if isName v.nm = true then some (w ++ 32 :: (v.nm ++ 32 :: (tyW v.t ++ 32 :: (61 :: 32 :: (x ++ 59 :: [10]))))) else none
  | none => none

/-- A mutex's line. -/
def prM (m : List UInt8) : Option (List UInt8) := if isName m = true then some ([109, 117, 116, 101, 120] ++ 32 :: (m ++ 59 :: [10])) else none

/-- A thread's lines. -/
def prT (t : Th) : Option (List UInt8) :=
  match prAll (prV isName vtx [32, 32, 108, 111, 99, 97, 108]) t.locals, prL prX isName isNo 0 t.body with
  | some a, some b => if isName t.nm = true then some ([116, 104, 114, 101, 97, 100] ++ 32 :: (t.nm ++ 32 :: (123 :: 10 :: (a ++ (b ++ 125 :: [10]))))) else none
  | _, _ => none

/-- A program's text. -/
def prP (p : Pg) : Option (List UInt8) :=
  match prAll (prV isName vtx [115, 104, 97, 114, 101, 100]) p.shared, prAll (prM isName) p.mutexes, prAll (prT prX isName isNo vtx) p.threads with
  | some a, some b, some c => some (a ++ (b ++ c))
  | _, _, _ => none

/-- What is asked of the values' texts. -/
structure FitsV : Prop where
  free : ∀ t b x, vtx t b = some x → ∀ c ∈ x, ¬ c = 59
  inj : ∀ t b t' b' x, vtx t b = some x → vtx t' b' = some x → tyW t = tyW t' → t = t' ∧ b = b'
  kLocal : isName [108, 111, 99, 97, 108] = false

variable {prX isName isNo vtx}

/-- Begins with a word and a blank. -/
def Begins (w r : List UInt8) : Prop := ∃ q, r = w ++ 32 :: q

theorem var_begins {w : List UInt8} {v : Vr} {x r : List UInt8} (h : prV isName vtx w v = some x) : Begins w (x ++ r) := by
  unfold prV at h
  split at h
  · split at h
    · injection h with h; subst h; exact ⟨_, by simp only [List.append_assoc, List.cons_append]; rfl⟩
    · cases h
  · cases h

theorem var_apart (F : FitsS prX isName isNo) (V : FitsV isName vtx) (w : List UInt8) (v v' : Vr) (x y r r' : List UInt8) (hx : prV isName vtx w v = some x) (hy : prV isName vtx w v' = some y) (h : x ++ r = y ++ r') : v = v' ∧ x = y ∧ r = r' := by
  unfold prV at hx hy
  split at hx
  · next a ha =>
    split at hx
    · next hn =>
      split at hy
      · next a' ha' =>
        split at hy
        · next hn' =>
          injection hx with hx
          injection hy with hy
          subst hx hy
          simp only [List.append_assoc, List.cons_append, List.nil_append] at h
          have h1 := List.append_cancel_left h
          simp only [List.cons.injEq, true_and] at h1
          obtain ⟨e1, _, h2⟩ := run_eq _ _ _ _ _ _ (F.nameTok _ hn).2 (F.nameTok _ hn').2 (by decide) (by decide) h1
          obtain ⟨e2, _, h3⟩ := run_eq _ _ _ _ _ _ (tyW_tok v.t) (tyW_tok v'.t) (by decide) (by decide) h2
          simp only [List.cons.injEq, true_and] at h3
          obtain ⟨e3, h4⟩ := cut_eq 59 a a' _ _ (V.free _ _ _ ha) (V.free _ _ _ ha') h3
          subst e3
          obtain ⟨e4, e5⟩ := V.inj _ _ _ _ _ ha ha' e2
          simp only [List.cons.injEq, true_and] at h4
          have : v = v' := by cases v; cases v'; simp_all
          subst this
          exact ⟨rfl, rfl, h4⟩
        · cases hy
      · cases hy
    · cases hx
  · cases hx

theorem mutex_apart (F : FitsS prX isName isNo) (m m' x y r r' : List UInt8) (hx : prM isName m = some x) (hy : prM isName m' = some y) (h : x ++ r = y ++ r') : m = m' ∧ x = y ∧ r = r' := by
  unfold prM at hx hy
  split at hx
  · next hn =>
    split at hy
    · next hn' =>
      injection hx with hx
      injection hy with hy
      subst hx hy
      simp only [List.append_assoc, List.cons_append, List.nil_append, List.cons.injEq, true_and] at h
      obtain ⟨rfl, _, h2⟩ := run_eq _ _ _ _ _ _ (F.nameTok _ hn).2 (F.nameTok _ hn').2 (by decide) (by decide) h
      simp only [List.cons.injEq, true_and] at h2
      exact ⟨rfl, rfl, h2⟩
    · cases hy
  · cases hx

/-- No statement's line begins as a local's does. -/
theorem stmt_local (F : FitsS prX isName isNo) (V : FitsV isName vtx) {s : St} {x r : List UInt8} (h : ShapeS prX isName isNo 0 s x) : ¬ Begins [32, 32, 108, 111, 99, 97, 108] (x ++ r) := by
  rintro ⟨q, hq⟩
  have hm : mg 0 = [32, 32] := rfl
  have key : ∀ (w : List UInt8) (c : UInt8) (z : List UInt8), (∀ u ∈ w, tokch u = true) → tokch c = false → (mg 0 ++ (w ++ c :: z)) ++ r = [32, 32, 108, 111, 99, 97, 108] ++ 32 :: q → w = [108, 111, 99, 97, 108] := by
    intro w c z hw hc he
    rw [hm] at he
    simp only [List.cons_append, List.nil_append, List.append_assoc, List.cons.injEq, true_and] at he
    exact (run_eq w [108, 111, 99, 97, 108] c 32 (z ++ r) q hw (by decide) hc (by decide) he).1
  cases h with
  | assign nm e x hn hx =>
    have := key nm 32 _ (F.nameTok _ hn).2 (by decide) hq
    rw [this, V.kLocal] at hn; cases hn
  | lk k w nm e hk hn he =>
    have := key w 32 _ (lk_tok hk) (by decide) hq
    rcases hk with ⟨_, rfl⟩ | ⟨_, rfl⟩ <;> simp at this
  | asrt e x hx => have := key _ 32 _ (by decide) (by decide) hq; simp at this
  | iff e body els x y z hx hy hz => have := key _ 32 _ (by decide) (by decide) hq; simp at this
  | whl e body x y hx hy => have := key _ 32 _ (by decide) (by decide) hq; simp at this
  | skp e he => have := key _ 59 _ (by decide) (by decide) hq; simp at this

theorem body_local (F : FitsS prX isName isNo) (V : FitsV isName vtx) {l : List St} {x r : List UInt8} (h : prL prX isName isNo 0 l = some x) : ¬ Begins [32, 32, 108, 111, 99, 97, 108] (x ++ 125 :: r) := by
  cases l with
  | nil =>
    simp only [prL, Option.some.injEq] at h
    subst h
    rintro ⟨q, hq⟩
    simp at hq
  | cons s q =>
    simp only [prL] at h
    split at h
    · cases h
    · split at h
      · next a b ha hb =>
        injection h with h
        subst h
        rw [List.append_assoc]
        exact stmt_local F V (shapeS_of prX isName isNo 0 s a ha)
      · cases h

theorem thread_apart (F : FitsS prX isName isNo) (V : FitsV isName vtx) (t t' : Th) (x y r r' : List UInt8) (hx : prT prX isName isNo vtx t = some x) (hy : prT prX isName isNo vtx t' = some y) (h : x ++ r = y ++ r') : t = t' ∧ x = y ∧ r = r' := by
  unfold prT at hx hy
  split at hx
  · next a b ha hb =>
    split at hx
    · next hn =>
      split at hy
      · next a' b' ha' hb' =>
        split at hy
        · next hn' =>
          injection hx with hx
          injection hy with hy
          subst hx hy
          simp only [List.append_assoc, List.cons_append, List.nil_append, List.cons.injEq, true_and] at h
          obtain ⟨e1, _, h2⟩ := run_eq _ _ _ _ _ _ (F.nameTok _ hn).2 (F.nameTok _ hn').2 (by decide) (by decide) h
          simp only [List.cons.injEq, true_and] at h2
          obtain ⟨e2, rfl, h3⟩ := all_apart _ (Begins [32, 32, 108, 111, 99, 97, 108]) (fun v x r hv => var_begins hv) (var_apart F V _) _ _ a a' _ _ ha ha' (body_local F V hb) (body_local F V hb') h2
          obtain ⟨e3, rfl, h4⟩ := (stmts_apart F (SizeOf.sizeOf t.body + 1)).2 t.body (by omega) 0 t'.body b b' _ _ hb hb' ⟨_, rfl⟩ ⟨_, rfl⟩ h3
          have h4 : (125 : UInt8) :: 10 :: r = 125 :: 10 :: r' := h4
          simp only [List.cons.injEq, true_and] at h4
          have : t = t' := by cases t; cases t'; simp_all
          subst this
          exact ⟨rfl, rfl, h4⟩
        · cases hy
      · cases hy
    · cases hx
  · cases hx

theorem thread_begins {t : Th} {x r : List UInt8} (h : prT prX isName isNo vtx t = some x) : Begins [116, 104, 114, 101, 97, 100] (x ++ r) := by
  unfold prT at h
  split at h
  · split at h
    · injection h with h; subst h; exact ⟨_, by simp only [List.append_assoc, List.cons_append]; rfl⟩
    · cases h
  · cases h

theorem mutex_begins {m : List UInt8} {x r : List UInt8} (h : prM isName m = some x) : Begins [109, 117, 116, 101, 120] (x ++ r) := by
  unfold prM at h
  split at h
  · injection h with h; subst h; exact ⟨_, by simp only [List.append_assoc, List.cons_append]; rfl⟩
  · cases h

theorem all_begins {α : Type} {f : α → Option (List UInt8)} {w : List UInt8} (hb : ∀ a x r, f a = some x → Begins w (x ++ r)) {l : List α} {x : List UInt8} (h : prAll f l = some x) : x = [] ∨ Begins w x := by
  cases l with
  | nil => simp only [prAll, Option.some.injEq] at h; exact .inl h.symm
  | cons a q =>
    simp only [prAll] at h
    split at h
    · next u v hu hv => injection h with h; subst h; exact .inr (hb a u v hu)
    · cases h

/-- Two programs have one text just if they are the same. -/
theorem programs_apart (F : FitsS prX isName isNo) (V : FitsV isName vtx) (p q : Pg) (x : List UInt8) (hp : prP prX isName isNo vtx p = some x) (hq : prP prX isName isNo vtx q = some x) : p = q := by
  unfold prP at hp hq
  split at hp
  · next a b c ha hb hc =>
    split at hq
    · next a' b' c' ha' hb' hc' =>
      injection hp with hp
      injection hq with hq
      have h : a ++ (b ++ c) = a' ++ (b' ++ c') := by rw [hp, hq]
      have nsh : ∀ {b c : List UInt8} {l : List (List UInt8)} {m : List Th}, prAll (prM isName) l = some b → prAll (prT prX isName isNo vtx) m = some c → ¬ Begins [115, 104, 97, 114, 101, 100] (b ++ c) := by
        intro b c l m hb hc
        rintro ⟨z, hz⟩
        rcases all_begins (fun a x r h => mutex_begins h) hb with rfl | ⟨u, rfl⟩
        · rcases all_begins (fun a x r h => thread_begins h) hc with rfl | ⟨u, rfl⟩
          · simp at hz
          · simp at hz
        · simp at hz
      have nmu : ∀ {c : List UInt8} {m : List Th}, prAll (prT prX isName isNo vtx) m = some c → ¬ Begins [109, 117, 116, 101, 120] c := by
        intro c m hc
        rintro ⟨z, hz⟩
        rcases all_begins (fun a x r h => thread_begins h) hc with rfl | ⟨u, rfl⟩
        · simp at hz
        · simp at hz
      obtain ⟨e1, rfl, h1⟩ := all_apart _ (Begins [115, 104, 97, 114, 101, 100]) (fun v x r hv => var_begins hv) (var_apart F V _) _ _ a a' _ _ ha ha' (nsh hb hc) (nsh hb' hc') h
      obtain ⟨e2, rfl, h2⟩ := all_apart _ (Begins [109, 117, 116, 101, 120]) (fun m x r hm => mutex_begins hm) (mutex_apart F) _ _ b b' c c' hb hb' (nmu hc) (nmu hc') h1
      subst h2
      obtain ⟨e3, _, _⟩ := all_apart _ (Begins [116, 104, 114, 101, 97, 100]) (fun t x r ht => thread_begins ht) (thread_apart F V) _ _ c c [] [] hc hc' (by rintro ⟨z, hz⟩; simp at hz) (by rintro ⟨z, hz⟩; simp at hz) rfl
      cases p; cases q; simp_all
    · cases hq
  · cases hp

end
end Go.Proofs.YtcmahiphfpgadaaGreatDoor
