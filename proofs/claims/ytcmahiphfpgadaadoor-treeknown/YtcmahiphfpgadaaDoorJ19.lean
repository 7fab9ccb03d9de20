/- Joined texts of the proof. -/
import Derived.Test.YtcmahiphfpgadaaDoorJ18
import Derived.Test.YtcmahiphfpgadaaDoorJ16

/- Whether a statement may be printed. -/
namespace Go.Proofs.YtcmahiphfpgadaaDoor
open Go.RowKit
set_option linter.unusedVariables false

theorem sts_empty (l : List ST) : (ST.sts l).isEmpty = decide (l.length = 0) := by
  cases l with
  | nil => rfl
  | cons x r => simp [ST.sts]

theorem mayStmt_any (B : Nat) (N : Nat) : ∀ s : ST, SizeOf.sizeOf s < N → MayW B s := by
  induction N with
  | zero => intro s h; omega
  | succ N ih =>
    rintro ⟨k, nm, ⟨op, t, b, enm, ea, ec, eks⟩, a1, c1, body, a2, c2, els⟩ hN d w hd hin hBw hT h16
    have i1 : ∀ s ∈ body, MayW B s := fun s hs => ih s (by have := ST.sz1 (k := k) (nm := nm) (e := .mk op t b enm ea ec eks) (a1 := a1) (a2 := a2) (c1 := c1) (c2 := c2) (els := els) hs; omega)
    have i2 : ∀ s ∈ els, MayW B s := fun s hs => ih s (by have := ST.sz2 (k := k) (nm := nm) (e := .mk op t b enm ea ec eks) (a1 := a1) (a2 := a2) (c1 := c1) (c2 := c2) (body := body) hs; omega)
    unfold ST.In at hin
    obtain ⟨hk, he, hb1, hb2⟩ := hin
    have hsz : ∀ w', Below w.heap.size w w' → B ≤ w'.heap.size ∧ gB ≤ w'.heap.size ∧ Tab w' ∧ Old B w w' := fun w' h => ⟨by have := h.size; omega, by have := h.size; omega, hT.below h h16, Old.of_below h hBw⟩
    have pN : AskB w 21 #[.string nm] (isNm nm.data.toList) := fun w' h => (name_any nm w').mono (by rintro r w2 ⟨rfl, rfl⟩; exact ⟨rfl, Below.refl _ _⟩)
    have pE : AskB w 10 #[.agg (ex5 op t b enm (.slice ea eks.length ec)).toArray, .int .i64 32] (mayE 32 (ET.mk op t b enm ea ec eks).ex) := fun w' h => mayExpr_any 32 (.mk op t b enm ea ec eks) w' B (by decide) (he.old (hsz w' h).2.2.2) (hsz w' h).1 (hsz w' h).2.2.1 (hsz w' h).2.1
    have pX : AskB w 77 #[.agg (ex5 op t b enm (.slice ea eks.length ec)).toArray] (samX (ET.mk op t b enm ea ec eks).ex noE) := fun w' h => noExpr_any B (.mk op t b enm ea ec eks) w' (he.old (hsz w' h).2.2.2) (hsz w' h).1
    have pQ : ∀ k, AskB w 76 #[.agg (st9 k nm (ex5 op t b enm (.slice ea eks.length ec)) (.slice a1 body.length c1) (.slice a2 els.length c2)).toArray] ((ST.sts body).isEmpty && (ST.sts els).isEmpty) := fun k w' h => by
      rw [sts_empty, sts_empty]
      exact noBlocks_any k nm op t b enm _ a1 a2 _ _ c1 c2 w'
    have p1 : AskB w 48 #[.slice a1 body.length c1, .int .i64 ((d : Int) + 1)] (mayB (d + 1) (ST.sts body)) := fun w' h => by
      rw [ST.sts_eq]
      exact mayBlock_of B body i1 (d + 1) (by omega) a1 c1 w' (RowS.old hb1 (hsz w' h).2.2.2) (hsz w' h).1 (hsz w' h).2.2.1 (hsz w' h).2.1
    have p2 : AskB w 48 #[.slice a2 els.length c2, .int .i64 ((d : Int) + 1)] (mayB (d + 1) (ST.sts els)) := fun w' h => by
      rw [ST.sts_eq]
      exact mayBlock_of B els i2 (d + 1) (by omega) a2 c2 w' (RowS.old hb2 (hsz w' h).2.2.2) (hsz w' h).1 (hsz w' h).2.2.1 (hsz w' h).2.1
    show Calls Tryd.prog 67 #[.agg (st9 k nm (ex5 op t b enm (.slice ea eks.length ec)) (.slice a1 body.length c1) (.slice a2 els.length c2)).toArray, .int .i64 (d : Int)] w fun r w' => r = .returned (.bool (mayS d (.mk k nm.data.toList (ET.mk op t b enm ea ec eks).ex (ST.sts body) (ST.sts els)))) ∧ Below w.heap.size w w'
    rw [mayS]
    by_cases h1 : k = 1
    · rw [if_pos h1]; subst h1
      exact mayS_1 w nm op t b enm ea a1 a2 _ _ _ c1 c2 ec d _ _ _ pN pE (pQ 1) hd
    rw [if_neg h1]
    by_cases h2 : k = 2
    · rw [if_pos (.inl h2)]; subst h2
      exact mayS_2 w nm op t b enm ea a1 a2 _ _ _ c1 c2 ec d _ _ _ pN pX (pQ 2) hd
    by_cases h3 : k = 3
    · rw [if_pos (.inr h3)]; subst h3
      exact mayS_3 w nm op t b enm ea a1 a2 _ _ _ c1 c2 ec d _ _ _ pN pX (pQ 3) hd
    rw [if_neg (by rintro (h | h); exact h2 h; exact h3 h)]
    by_cases h4 : k = 4
    · rw [if_pos h4]; subst h4
      exact mayS_4 w nm op t b enm ea a1 a2 _ _ _ c1 c2 ec d _ _ _ (emp nm) pE (pQ 4) hd
    rw [if_neg h4]
    by_cases h5 : k = 5
    · rw [if_pos h5]; subst h5
      exact mayS_5 w nm op t b enm ea a1 a2 _ _ _ c1 c2 ec d _ _ _ _ (emp nm) pE p1 p2 hd
    rw [if_neg h5]
    by_cases h6 : k = 6
    · rw [if_pos h6]; subst h6
      exact mayS_6 w nm op t b enm ea a1 a2 _ _ _ c1 c2 ec d _ _ _ _ (emp nm) pE p1 (sts_empty els).symm hd
    rw [if_neg h6]
    by_cases h7 : k = 7
    · rw [if_pos h7]; subst h7
      exact mayS_7 w nm op t b enm ea a1 a2 _ _ _ c1 c2 ec d _ _ _ (emp nm) pX (pQ 7) hd
    rw [if_neg h7]
    exact mayS_no w k nm op t b enm ea a1 a2 _ _ _ c1 c2 ec d (by omega)

/-- Whether a block may be printed. -/
theorem mayBlock_any (B : Nat) (ss : List ST) (d : Nat) (hd : d ≤ 33) (a : Option Addr) (c : Nat) (w : World) (hr : RowS B w a c ss) (hBw : B ≤ w.heap.size) (hT : Tab w) (h16 : gB ≤ w.heap.size) :
    Calls Tryd.prog 48 #[.slice a ss.length c, .int .i64 (d : Int)] w fun r w' => r = .returned (.bool (mayB d (ss.map ST.st))) ∧ Below w.heap.size w w' :=
  mayBlock_of B ss (fun s _ => mayStmt_any B (SizeOf.sizeOf s + 1) s (by omega)) d hd a c w hr hBw hT h16

end Go.Proofs.YtcmahiphfpgadaaDoor

/- Prepared for layer 5, no program is named: statements' lines tell them apart. -/
namespace Go.Proofs.YtcmahiphfpgadaaDoor
set_option linter.unusedVariables false
section
variable {prX : Ex → Option (List UInt8)} {isName : List UInt8 → Bool} {isNo : Ex → Bool}

theorem line_eq {d : Nat} {w w' : List UInt8} {c c' : UInt8} {q q' r r' : List UInt8} (hw : ∀ u ∈ w, tokch u = true) (hw' : ∀ u ∈ w', tokch u = true) (hc : tokch c = false) (hc' : tokch c' = false)
    (h : (mg d ++ (w ++ c :: q)) ++ r = (mg d ++ (w' ++ c' :: q')) ++ r') : w = w' ∧ c = c' ∧ q ++ r = q' ++ r' := by
  simp only [List.append_assoc, List.cons_append] at h
  exact run_eq w w' c c' (q ++ r) (q' ++ r') hw hw' hc hc' (List.append_cancel_left h)

theorem mg_cut (d : Nat) : mg d = List.replicate (2 * d) 32 ++ [32, 32] := by
  rw [mg, show ([32, 32] : List UInt8) = List.replicate 2 32 from rfl, List.replicate_append_replicate]

set_option maxHeartbeats 1600000 in
theorem stmts_apart (F : FitsS prX isName isNo) : ∀ n,
    (∀ s, SizeOf.sizeOf s < n → ∀ (d : Nat) (s' : St) (x y r r' : List UInt8), prS prX isName isNo d s = some x → prS prX isName isNo d s' = some y → x ++ r = y ++ r' → s = s' ∧ x = y ∧ r = r') ∧
    (∀ l, SizeOf.sizeOf l < n → ∀ (d : Nat) (l' : List St) (x y r r' : List UInt8), prL prX isName isNo d l = some x → prL prX isName isNo d l' = some y → Term d r → Term d r' → x ++ r = y ++ r' → l = l' ∧ x = y ∧ r = r') := by
  intro n
  induction n with
  | zero => exact ⟨fun s h => by omega, fun l h => by omega⟩
  | succ n ih =>
    obtain ⟨ihS, ihL⟩ := ih
    have hST : ∀ s, SizeOf.sizeOf s < n + 1 → ∀ (d : Nat) (s' : St) (x y r r' : List UInt8), prS prX isName isNo d s = some x → prS prX isName isNo d s' = some y → x ++ r = y ++ r' → s = s' ∧ x = y ∧ r = r' := by
      intro s hn d s' x y r r' hsx hsy h
      have sa := shapeS_of prX isName isNo d s x hsx
      have sb := shapeS_of prX isName isNo d s' y hsy
      clear hsx hsy
      cases sa with
      | assign nm1 e1 x1 hn1 hx1 =>
        cases sb with
        | assign nm2 e2 x2 hn2 hx2 =>
          obtain ⟨hw, hc, hq⟩ := line_eq (F.nameTok _ hn1).2 (F.nameTok _ hn2).2 (by decide) (by decide) h
          subst hw
          simp only [List.cons_append, List.cons.injEq, true_and, List.append_assoc, List.nil_append] at hq
          obtain ⟨rfl, rfl, h2⟩ := F.xApart _ _ _ _ _ _ hx1 hx2 ⟨59, _, rfl, .inr (.inr rfl)⟩ ⟨59, _, rfl, .inr (.inr rfl)⟩ hq
          simp only [List.cons.injEq, true_and] at h2
          exact ⟨rfl, rfl, h2⟩
        | lk k2 w2 nm2 e2 hk2 hn2 he2 =>
          obtain ⟨hw, hc, hq⟩ := line_eq (F.nameTok _ hn1).2 (lk_tok hk2) (by decide) (by decide) h
          exfalso
          rcases hk2 with ⟨_, rfl⟩ | ⟨_, rfl⟩
          · rw [hw, F.kLock] at hn1; cases hn1
          · rw [hw, F.kUnlock] at hn1; cases hn1
        | asrt e2 x2 hx2 =>
          obtain ⟨hw, hc, hq⟩ := line_eq (F.nameTok _ hn1).2 (by decide) (by decide) (by decide) h
          exfalso; rw [hw, F.kAssert] at hn1; cases hn1
        | iff e2 body2 els2 x2 y2 z2 hx2 hy2 hz2 =>
          obtain ⟨hw, hc, hq⟩ := line_eq (F.nameTok _ hn1).2 (by decide) (by decide) (by decide) h
          exfalso; rw [hw, F.kIf] at hn1; cases hn1
        | whl e2 body2 x2 y2 hx2 hy2 =>
          obtain ⟨hw, hc, hq⟩ := line_eq (F.nameTok _ hn1).2 (by decide) (by decide) (by decide) h
          exfalso; rw [hw, F.kWhile] at hn1; cases hn1
        | skp e2 he2 =>
          obtain ⟨hw, hc, hq⟩ := line_eq (F.nameTok _ hn1).2 (by decide) (by decide) (by decide) h
          exfalso; rw [hw, F.kSkip] at hn1; cases hn1
      | lk k1 w1 nm1 e1 hk1 hn1 he1 =>
        cases sb with
        | assign nm2 e2 x2 hn2 hx2 =>
          obtain ⟨hw, hc, hq⟩ := line_eq (lk_tok hk1) (F.nameTok _ hn2).2 (by decide) (by decide) h
          exfalso
          rcases hk1 with ⟨_, rfl⟩ | ⟨_, rfl⟩
          · rw [← hw, F.kLock] at hn2; cases hn2
          · rw [← hw, F.kUnlock] at hn2; cases hn2
        | lk k2 w2 nm2 e2 hk2 hn2 he2 =>
          obtain ⟨hw, hc, hq⟩ := line_eq (lk_tok hk1) (lk_tok hk2) (by decide) (by decide) h
          simp only [List.cons_append, List.append_assoc, List.nil_append] at hq
          obtain ⟨rfl, _, h2⟩ := run_eq nm1 nm2 59 59 _ _ (F.nameTok _ hn1).2 (F.nameTok _ hn2).2 (by decide) (by decide) hq
          obtain rfl := F.noOne _ _ he1 he2
          simp only [List.cons.injEq, true_and] at h2
          rcases hk1 with ⟨rfl, rfl⟩ | ⟨rfl, rfl⟩ <;> rcases hk2 with ⟨rfl, h3⟩ | ⟨rfl, h3⟩
          · subst h3; exact ⟨rfl, rfl, h2⟩
          · rw [h3] at hw; simp at hw
          · rw [h3] at hw; simp at hw
          · subst h3; exact ⟨rfl, rfl, h2⟩
        | asrt e2 x2 hx2 =>
          obtain ⟨hw, hc, hq⟩ := line_eq (lk_tok hk1) (by decide) (by decide) (by decide) h
          exfalso; rcases hk1 with ⟨_, rfl⟩ | ⟨_, rfl⟩ <;> simp at hw
        | iff e2 body2 els2 x2 y2 z2 hx2 hy2 hz2 =>
          obtain ⟨hw, hc, hq⟩ := line_eq (lk_tok hk1) (by decide) (by decide) (by decide) h
          exfalso; rcases hk1 with ⟨_, rfl⟩ | ⟨_, rfl⟩ <;> simp at hw
        | whl e2 body2 x2 y2 hx2 hy2 =>
          obtain ⟨hw, hc, hq⟩ := line_eq (lk_tok hk1) (by decide) (by decide) (by decide) h
          exfalso; rcases hk1 with ⟨_, rfl⟩ | ⟨_, rfl⟩ <;> simp at hw
        | skp e2 he2 =>
          obtain ⟨hw, hc, hq⟩ := line_eq (lk_tok hk1) (by decide) (by decide) (by decide) h
          exfalso; rcases hk1 with ⟨_, rfl⟩ | ⟨_, rfl⟩ <;> simp at hw
      | asrt e1 x1 hx1 =>
        cases sb with
        | assign nm2 e2 x2 hn2 hx2 =>
          obtain ⟨hw, hc, hq⟩ := line_eq (by decide) (F.nameTok _ hn2).2 (by decide) (by decide) h
          exfalso; rw [← hw, F.kAssert] at hn2; cases hn2
        | lk k2 w2 nm2 e2 hk2 hn2 he2 =>
          obtain ⟨hw, hc, hq⟩ := line_eq (by decide) (lk_tok hk2) (by decide) (by decide) h
          exfalso; rcases hk2 with ⟨_, rfl⟩ | ⟨_, rfl⟩ <;> simp at hw
        | asrt e2 x2 hx2 =>
          obtain ⟨hw, hc, hq⟩ := line_eq (by decide) (by decide) (by decide) (by decide) h
          simp only [List.cons_append, List.append_assoc, List.nil_append] at hq
          obtain ⟨rfl, rfl, h2⟩ := F.xApart _ _ _ _ _ _ hx1 hx2 ⟨59, _, rfl, .inr (.inr rfl)⟩ ⟨59, _, rfl, .inr (.inr rfl)⟩ hq
          simp only [List.cons.injEq, true_and] at h2
          exact ⟨rfl, rfl, h2⟩
        | iff e2 body2 els2 x2 y2 z2 hx2 hy2 hz2 =>
          obtain ⟨hw, hc, hq⟩ := line_eq (by decide) (by decide) (by decide) (by decide) h
          simp at hw
        | whl e2 body2 x2 y2 hx2 hy2 =>
          obtain ⟨hw, hc, hq⟩ := line_eq (by decide) (by decide) (by decide) (by decide) h
          simp at hw
        | skp e2 he2 =>
          obtain ⟨hw, hc, hq⟩ := line_eq (by decide) (by decide) (by decide) (by decide) h
          simp at hw
      | iff e1 body1 els1 x1 y1 z1 hx1 hy1 hz1 =>
        cases sb with
        | assign nm2 e2 x2 hn2 hx2 =>
          obtain ⟨hw, hc, hq⟩ := line_eq (by decide) (F.nameTok _ hn2).2 (by decide) (by decide) h
          exfalso; rw [← hw, F.kIf] at hn2; cases hn2
        | lk k2 w2 nm2 e2 hk2 hn2 he2 =>
          obtain ⟨hw, hc, hq⟩ := line_eq (by decide) (lk_tok hk2) (by decide) (by decide) h
          exfalso; rcases hk2 with ⟨_, rfl⟩ | ⟨_, rfl⟩ <;> simp at hw
        | asrt e2 x2 hx2 =>
          obtain ⟨hw, hc, hq⟩ := line_eq (by decide) (by decide) (by decide) (by decide) h
          simp at hw
        | iff e2 body2 els2 x2 y2 z2 hx2 hy2 hz2 =>
          obtain ⟨hw, hc, hq⟩ := line_eq (by decide) (by decide) (by decide) (by decide) h
          have hs : SizeOf.sizeOf body1 < n := by simp at hn; omega
          have hs2 : SizeOf.sizeOf els1 < n := by simp at hn; omega
          simp only [List.cons_append, List.append_assoc, List.nil_append] at hq
          obtain ⟨rfl, rfl, h2⟩ := F.xApart _ _ _ _ _ _ hx1 hx2 ⟨32, _, rfl, .inl rfl⟩ ⟨32, _, rfl, .inl rfl⟩ hq
          simp only [List.cons.injEq, true_and] at h2
          obtain ⟨rfl, rfl, h3⟩ := ihL body1 hs (d + 1) body2 _ _ _ _ hy1 hy2 (mg_term d _) (mg_term d _) h2
          have h4 := List.append_cancel_left h3
          simp only [List.cons.injEq, true_and] at h4
          cases els1 with
          | nil =>
            cases els2 with
            | nil => simp at h4; exact ⟨rfl, by simp, h4⟩
            | cons u v => simp at h4
          | cons u v =>
            cases els2 with
            | nil => simp at h4
            | cons u' v' =>
              simp only [List.isEmpty_cons, Bool.false_eq_true, if_false, List.cons_append, List.append_assoc, List.nil_append, List.cons.injEq, true_and] at h4
              obtain ⟨h5, rfl, h6⟩ := ihL (u :: v) hs2 (d + 1) (u' :: v') _ _ _ _ hz1 hz2 (mg_term d _) (mg_term d _) h4
              rw [← h5]
              have h7 := List.append_cancel_left h6
              simp only [List.cons.injEq, true_and] at h7
              exact ⟨rfl, rfl, h7⟩
        | whl e2 body2 x2 y2 hx2 hy2 =>
          obtain ⟨hw, hc, hq⟩ := line_eq (by decide) (by decide) (by decide) (by decide) h
          simp at hw
        | skp e2 he2 =>
          obtain ⟨hw, hc, hq⟩ := line_eq (by decide) (by decide) (by decide) (by decide) h
          simp at hw
      | whl e1 body1 x1 y1 hx1 hy1 =>
        cases sb with
        | assign nm2 e2 x2 hn2 hx2 =>
          obtain ⟨hw, hc, hq⟩ := line_eq (by decide) (F.nameTok _ hn2).2 (by decide) (by decide) h
          exfalso; rw [← hw, F.kWhile] at hn2; cases hn2
        | lk k2 w2 nm2 e2 hk2 hn2 he2 =>
          obtain ⟨hw, hc, hq⟩ := line_eq (by decide) (lk_tok hk2) (by decide) (by decide) h
          exfalso; rcases hk2 with ⟨_, rfl⟩ | ⟨_, rfl⟩ <;> simp at hw
        | asrt e2 x2 hx2 =>
          obtain ⟨hw, hc, hq⟩ := line_eq (by decide) (by decide) (by decide) (by decide) h
          simp at hw
        | iff e2 body2 els2 x2 y2 z2 hx2 hy2 hz2 =>
          obtain ⟨hw, hc, hq⟩ := line_eq (by decide) (by decide) (by decide) (by decide) h
          simp at hw
        | whl e2 body2 x2 y2 hx2 hy2 =>
          obtain ⟨hw, hc, hq⟩ := line_eq (by decide) (by decide) (by decide) (by decide) h
          have hs : SizeOf.sizeOf body1 < n := by simp at hn; omega
          simp only [List.cons_append, List.append_assoc, List.nil_append] at hq
          obtain ⟨rfl, rfl, h2⟩ := F.xApart _ _ _ _ _ _ hx1 hx2 ⟨32, _, rfl, .inl rfl⟩ ⟨32, _, rfl, .inl rfl⟩ hq
          simp only [List.cons.injEq, true_and] at h2
          obtain ⟨rfl, rfl, h3⟩ := ihL body1 hs (d + 1) body2 _ _ _ _ hy1 hy2 (mg_term d _) (mg_term d _) h2
          have h4 := List.append_cancel_left h3
          simp only [List.cons.injEq, true_and] at h4
          exact ⟨rfl, rfl, h4⟩
        | skp e2 he2 =>
          obtain ⟨hw, hc, hq⟩ := line_eq (by decide) (by decide) (by decide) (by decide) h
          simp at hw
      | skp e1 he1 =>
        cases sb with
        | assign nm2 e2 x2 hn2 hx2 =>
          obtain ⟨hw, hc, hq⟩ := line_eq (by decide) (F.nameTok _ hn2).2 (by decide) (by decide) h
          exfalso; rw [← hw, F.kSkip] at hn2; cases hn2
        | lk k2 w2 nm2 e2 hk2 hn2 he2 =>
          obtain ⟨hw, hc, hq⟩ := line_eq (by decide) (lk_tok hk2) (by decide) (by decide) h
          exfalso; rcases hk2 with ⟨_, rfl⟩ | ⟨_, rfl⟩ <;> simp at hw
        | asrt e2 x2 hx2 =>
          obtain ⟨hw, hc, hq⟩ := line_eq (by decide) (by decide) (by decide) (by decide) h
          simp at hw
        | iff e2 body2 els2 x2 y2 z2 hx2 hy2 hz2 =>
          obtain ⟨hw, hc, hq⟩ := line_eq (by decide) (by decide) (by decide) (by decide) h
          simp at hw
        | whl e2 body2 x2 y2 hx2 hy2 =>
          obtain ⟨hw, hc, hq⟩ := line_eq (by decide) (by decide) (by decide) (by decide) h
          simp at hw
        | skp e2 he2 =>
          obtain ⟨hw, hc, hq⟩ := line_eq (by decide) (by decide) (by decide) (by decide) h
          obtain rfl := F.noOne _ _ he1 he2
          simp only [List.cons_append, List.nil_append, List.cons.injEq, true_and] at hq
          exact ⟨rfl, rfl, hq⟩
    refine ⟨hST, ?_⟩
    intro l hn d l' x y r r' hlx hly hr hr' h
    cases l with
    | nil =>
      simp only [prL] at hlx
      injection hlx with hlx
      subst hlx
      cases l' with
      | nil =>
        simp only [prL] at hly
        injection hly with hly
        subst hly
        exact ⟨rfl, rfl, by simpa using h⟩
      | cons s q =>
        exfalso
        simp only [prL] at hly
        split at hly
        · cases hly
        · split at hly
          · next a b ha hb =>
            injection hly with hly
            subst hly
            obtain ⟨w, c, z, rfl⟩ := shapeS_word F (shapeS_of prX isName isNo d s a ha)
            obtain ⟨t, rfl⟩ := hr
            rw [mg_cut] at h
            simp only [List.nil_append, List.append_assoc] at h
            have := List.append_cancel_left h
            simp at this
          · cases hly
    | cons s q =>
      simp only [prL] at hlx
      split at hlx
      · cases hlx
      · split at hlx
        · next a b ha hb =>
          injection hlx with hlx
          subst hlx
          cases l' with
          | nil =>
            exfalso
            simp only [prL] at hly
            injection hly with hly
            subst hly
            obtain ⟨w, c, z, rfl⟩ := shapeS_word F (shapeS_of prX isName isNo d s a ha)
            obtain ⟨t, rfl⟩ := hr'
            rw [mg_cut] at h
            simp only [List.nil_append, List.append_assoc] at h
            have := List.append_cancel_left h
            simp at this
          | cons s' q' =>
            simp only [prL] at hly
            split at hly
            · cases hly
            · split at hly
              · next a' b' ha' hb' =>
                injection hly with hly
                subst hly
                rw [List.append_assoc, List.append_assoc] at h
                have h1 : SizeOf.sizeOf s < n + 1 := by simp at hn; omega
                have h2 : SizeOf.sizeOf q < n := by simp at hn; omega
                obtain ⟨rfl, rfl, h3⟩ := hST s h1 d s' a a' _ _ ha ha' h
                obtain ⟨rfl, rfl, rfl⟩ := ihL q h2 d q' b b' r r' hb hb' hr hr' h3
                exact ⟨rfl, rfl, rfl⟩
              · cases hly
        · cases hlx
end
end Go.Proofs.YtcmahiphfpgadaaDoor
