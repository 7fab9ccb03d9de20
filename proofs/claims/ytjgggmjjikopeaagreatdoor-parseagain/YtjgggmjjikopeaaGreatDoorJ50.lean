/- Joined texts of the proof. -/
import Derived.Test.YtjgggmjjikopeaaGreatDoorJ27
import Derived.Deep.Slices
import Derived.Test.YtjgggmjjikopeaaGreatDoorJ49
import Derived.Lib.ItoaLen
import Derived.Test.YtjgggmjjikopeaaGreatDoorJ39

/- What is read weighs no more than its tokens. -/
namespace Go.Proofs.YtjgggmjjikopeaaGreatDoor
set_option linter.unusedVariables false

mutual
def exW : Ex → Nat
  | .mk _ _ _ nm ks => nm.length + 1 + exWs ks
def exWs : List Ex → Nat
  | [] => 0
  | e :: r => exW e + exWs r
end
mutual
def stW : St → Nat
  | .mk _ nm e b c => nm.length + 1 + exW e + stWs b + stWs c
def stWs : List St → Nat
  | [] => 0
  | e :: r => stW e + stWs r
end
def vrW (v : Vr) : Nat := v.nm.length + 1
def thW (t : Th) : Nat := t.nm.length + 1 + (t.locals.map vrW).sum + stWs t.body
def pgW (p : Pg) : Nat := (p.shared.map vrW).sum + (p.mutexes.map fun m => m.length + 1).sum + (p.threads.map thW).sum
/-- What tokens weigh. -/
def tkW : List Tk → Nat
  | [] => 0
  | t :: r => t.text.length + 1 + tkW r
theorem tkW_tail (l : List Tk) : tkW l.tail ≤ tkW l := by
  cases l with
  | nil => exact Nat.le_refl _
  | cons t r => simp only [List.tail_cons, tkW]; omega
theorem tkW_hd {l : List Tk} (h : (hdT l).text ≠ []) : tkW l = (hdT l).text.length + 1 + tkW l.tail := by
  cases l with
  | nil => exact absurd rfl h
  | cons t r => rfl
theorem tkW_hd1 {l : List Tk} (h : (hdT l).text ≠ []) : 2 + tkW l.tail ≤ tkW l := by
  rw [tkW_hd h]
  have := List.length_pos_iff.2 h
  omega
/-- What is read and what is left weigh at most so much. -/
def Rs.Lw {α : Type} (f : α → Nat) (R : Rs α) (n : Nat) : Prop := match R with
  | .ok v r => f v + tkW r ≤ n
  | .bad _ _ => True
theorem Rs.Lw.bind {α β : Type} {R : Rs α} {k : α → List Tk → Rs β} {f : α → Nat} {g : β → Nat} {m n : Nat} (h : R.Lw f m) (hk : ∀ v r, f v + tkW r ≤ m → (k v r).Lw g n) : (R.bind k).Lw g n := by
  cases R with
  | ok v r => exact hk v r h
  | bad e p => trivial
theorem Rs.Lw.mono {α : Type} {R : Rs α} {f : α → Nat} {m n : Nat} (h : R.Lw f m) (hm : m ≤ n) : R.Lw f n := by
  cases R with
  | ok v r => exact Nat.le_trans h hm
  | bad e p => trivial
theorem nodeR_ok {p op : Nat} {ks : List Ex} {r r' : List Tk} {e : Ex} (h : nodeR p op ks r = .ok e r') : exW e = 1 + exWs ks ∧ r' = r := by
  unfold nodeR at h
  split at h
  · cases h
  · cases h
    exact ⟨by rw [exW]; simp, rfl⟩
theorem leafR_w {l r : List Tk} {e : Ex} (h : leafR l = .ok e r) : exW e + tkW r ≤ tkW l := by
  unfold leafR at h
  split at h
  · next v hv =>
    cases h
    have hn := lit_ne (t := hdT l) (by rw [hv]; rfl)
    cases l with
    | nil => rcases hn with q | q <;> exact absurd rfl q
    | cons t r => simp only [exW, exWs, List.length_nil, List.tail_cons, tkW]; omega
  · split at h
    · next hn =>
      cases h
      rw [tkW_hd (nm_ne hn)]
      simp only [exW, exWs]
      omega
    · cases h
theorem mustR_w {x : List UInt8} {l r : List Tk} {u : Unit} (hx : x ≠ []) (h : mustR x l = .ok u r) : 2 + tkW r ≤ tkW l := by
  unfold mustR at h
  split at h
  · next hc =>
    cases h
    exact tkW_hd1 (by rw [hc]; exact hx)
  · cases h
theorem bindOf_ne {t : List UInt8} (h : 1 ≤ (bindOf t).2) : t ≠ [] := by
  rintro rfl
  revert h
  decide
theorem openOf_ne {t : List UInt8} (h : openOf t ≠ 0) : t ≠ [] := by
  rintro rfl
  exact h (by decide)
/-- Expressions. -/
theorem read_w (f : Nat) :
    (∀ n d l e r, 1 ≤ n → rowF f n d l = some (.ok e r) → exW e + tkW r ≤ tkW l) ∧
    (∀ n m d x l e r, 1 ≤ n → loopF f n m d x l = some (.ok e r) → exW e + tkW r ≤ exW x + tkW l) ∧
    (∀ d l e r, operF f d l = some (.ok e r) → exW e + tkW r ≤ tkW l) ∧
    (∀ d l e r, brkF f d l = some (.ok e r) → exW e + tkW r ≤ tkW l) := by
  induction f with
  | zero => exact ⟨fun n d l e r _ h => by simp [rowF] at h, fun n m d x l e r _ h => by simp [loopF] at h, fun d l e r h => by simp [operF] at h, fun d l e r h => by simp [brkF] at h⟩
  | succ f ih =>
    obtain ⟨ih1, ih2, ih3, ih4⟩ := ih
    refine ⟨fun n d l e r hn h => ?_, fun n m d x l e r hn h => ?_, fun d l e r h => ?_, fun d l e r h => ?_⟩
    · rw [rowF] at h
      split at h
      · cases h
      · cases h
      · next hc =>
        have h1 := ih3 _ _ _ _ hc
        have h2 := ih2 _ _ _ _ _ _ _ hn h
        omega
    · rw [loopF] at h
      split at h
      · cases h
        exact Nat.le_refl _
      · next hb =>
        have hne := tkW_hd1 (bindOf_ne (t := (hdT l).text) (by omega))
        split at h
        · cases h
        · cases h
        · next hc =>
          have h1 := ih1 _ _ _ _ _ (by omega) hc
          split at h
          · cases h
          · next hq =>
            obtain ⟨h2, rfl⟩ := nodeR_ok hq
            have h3 := ih2 _ _ _ _ _ _ _ hn h
            simp only [exWs] at h2
            omega
    · rw [operF] at h
      split at h
      · exact leafR_w (Option.some.inj h)
      · split at h
        · cases h
        · split at h
          · next ho =>
            have hne := tkW_hd1 (openOf_ne (t := (hdT l).text) (by omega))
            split at h
            · cases h
            · cases h
            · next hc =>
              have h1 := ih3 _ _ _ _ hc
              obtain ⟨h2, rfl⟩ := nodeR_ok (Option.some.inj h)
              simp only [exWs] at h2
              omega
          · split at h
            · exact ih4 _ _ _ _ h
            · next ho =>
              have hne := tkW_hd1 (openOf_ne (t := (hdT l).text) ho)
              split at h
              · cases h
              · cases h
              · next hc =>
                have h1 := ih4 _ _ _ _ hc
                obtain ⟨h2, rfl⟩ := nodeR_ok (Option.some.inj h)
                simp only [exWs] at h2
                omega
    · rw [brkF] at h
      split at h
      · cases h
      · next hm =>
        have h0 := mustR_w (by decide) hm
        split at h
        · cases h
        · cases h
        · next hc =>
          have h1 := ih1 _ _ _ _ _ (by omega) hc
          split at h
          · cases h
          · next hm2 =>
            have h2 := mustR_w (by decide) hm2
            cases h
            omega
theorem exprR_w (l : List Tk) : (exprR l).Lw exW (tkW l) := by
  have h := exprR_row l
  cases hc : exprR l with
  | bad e p => trivial
  | ok e r =>
    rw [hc] at h
    exact (read_w _).1 _ _ _ _ _ (by omega) h
theorem nameR_w (l : List Tk) : (nameR l).Lw (fun x => x.length + 1) (tkW l) := by
  unfold nameR
  split
  · next h => show (hdT l).text.length + 1 + tkW l.tail ≤ tkW l; rw [tkW_hd (nm_ne h)]; omega
  · trivial
theorem mustR_lw {x : List UInt8} (l : List Tk) (hx : x ≠ []) : (mustR x l).Lw (fun _ => 2) (tkW l) := by
  cases h : mustR x l with
  | bad e p => trivial
  | ok u r => exact mustR_w hx h
theorem typeR_w (l : List Tk) : (typeR l).Lw (fun _ => 2) (tkW l) := by
  unfold typeR
  split
  · next h => exact tkW_hd1 (by rw [h]; decide)
  · split
    · next h => exact tkW_hd1 (by rw [h]; decide)
    · split
      · next h => exact tkW_hd1 (by rw [h]; decide)
      · trivial
theorem valueM_w (m : Bool) (t p : Nat) (l : List Tk) : (valueM m t p l).Lw (fun _ => 0) (tkW l) := by
  unfold valueM
  split
  · trivial
  · split
    · trivial
    · split
      · show 0 + tkW l.tail ≤ _
        have := tkW_tail l
        omega
      · trivial
theorem initR_w (t : Nat) (l : List Tk) : (initR t l).Lw (fun _ => 0) (tkW l) := by
  have h1 := tkW_tail l
  unfold initR
  split
  · unfold valueR
    have h2 := tkW_tail l.tail
    split
    · exact (valueM_w _ _ _ _).mono (by omega)
    · exact (valueM_w _ _ _ _).mono (by omega)
  · show 0 + tkW l ≤ _
    omega
theorem variableR_w (l : List Tk) : (variableR l).Lw vrW (tkW l) :=
  (nameR_w l).bind fun x r h1 => (typeR_w r).bind fun t r2 h2 => (initR_w t r2).bind fun v r3 h3 => (mustR_lw r3 (by decide)).bind fun _ r4 h4 => by
    show x.length + 1 + tkW r4 ≤ _
    omega
theorem noE_w : exW noE = 1 := by decide
theorem simpleR_w (l : List Tk) : (simpleR l).Lw stW (tkW l) := by
  unfold simpleR
  split
  · next h =>
    have h0 := tkW_hd (l := l) (by rw [h]; decide)
    rw [h] at h0
    simp only [List.length_cons, List.length_nil] at h0
    refine (nameR_w l.tail).bind fun x r h1 => ?_
    show stW (.mk 2 x noE [] []) + tkW r ≤ _
    simp only [stW, stWs, noE_w]
    omega
  · split
    · next h =>
      have h0 := tkW_hd (l := l) (by rw [h]; decide)
      rw [h] at h0
      simp only [List.length_cons, List.length_nil] at h0
      refine (nameR_w l.tail).bind fun x r h1 => ?_
      show stW (.mk 3 x noE [] []) + tkW r ≤ _
      simp only [stW, stWs, noE_w]
      omega
    · split
      · next h =>
        have h0 := tkW_hd1 (l := l) (by rw [h]; decide)
        refine (exprR_w l.tail).bind fun x r h1 => ?_
        show stW (.mk 4 [] x [] []) + tkW r ≤ _
        simp only [stW, stWs, List.length_nil]
        omega
      · split
        · next h =>
          have h0 := tkW_hd1 (l := l) (by rw [h]; decide)
          show stW (.mk 7 [] noE [] []) + tkW l.tail ≤ _
          simp only [stW, stWs, noE_w, List.length_nil]
          omega
        · refine (nameR_w l).bind fun x r h1 => (mustR_lw r (by decide)).bind fun _ r2 h2 => (exprR_w r2).bind fun e r3 h3 => ?_
          show stW (.mk 1 x e [] []) + tkW r3 ≤ _
          simp only [stW, stWs]
          omega
theorem stmt_w (f : Nat) : ∀ (d : Nat) (l : List Tk), (stmtR f d l).Lw stW (tkW l) ∧ (elseR f d l).Lw stWs (tkW l) ∧ (blockR f d l).Lw stWs (tkW l) ∧ (stmtsR f d l).Lw stWs (tkW l) := by
  induction f with
  | zero => exact fun d l => ⟨by rw [stmtR]; trivial, by rw [elseR]; trivial, by rw [blockR]; trivial, by rw [stmtsR]; trivial⟩
  | succ f ih =>
    intro d l
    refine ⟨?_, ?_, ?_, ?_⟩
    · rw [stmtR]
      split
      · next h =>
        have h0 := tkW_hd1 (l := l) (by rw [h]; decide)
        refine (exprR_w l.tail).bind fun e r h1 => ((ih d r).2.2.1).bind fun b r2 h2 => ((ih d r2).2.1).bind fun c r3 h3 => ?_
        show stW (.mk 5 [] e b c) + tkW r3 ≤ _
        simp only [stW, List.length_nil]
        omega
      · split
        · next h =>
          have h0 := tkW_hd1 (l := l) (by rw [h]; decide)
          refine (exprR_w l.tail).bind fun e r h1 => ((ih d r).2.2.1).bind fun b r2 h2 => ?_
          show stW (.mk 6 [] e b []) + tkW r2 ≤ _
          simp only [stW, stWs, List.length_nil]
          omega
        · refine (simpleR_w l).bind fun s r h1 => (mustR_lw r (by decide)).bind fun _ r2 h2 => ?_
          show stW s + tkW r2 ≤ _
          omega
    · rw [elseR]
      split
      · exact ((ih d l.tail).2.2.1).mono (tkW_tail l)
      · show 0 + tkW l ≤ _
        omega
    · rw [blockR]
      refine (mustR_lw l (by decide)).bind fun _ r h1 => ?_
      split
      · trivial
      · exact ((ih (d + 1) r).2.2.2).mono (by omega)
    · rw [stmtsR]
      split
      · show 0 + tkW l.tail ≤ _
        have := tkW_tail l
        omega
      · refine ((ih d l).1).bind fun s r h1 => ((ih d r).2.2.2).bind fun ss r2 h2 => ?_
        show stWs (s :: ss) + tkW r2 ≤ _
        simp only [stWs]
        omega
theorem localsR_w (f : Nat) : ∀ l : List Tk, (localsR f l).Lw (fun vs => (vs.map vrW).sum) (tkW l) := by
  induction f with
  | zero => exact fun l => trivial
  | succ f ih =>
    intro l
    have h0 := tkW_tail l
    rw [localsR]
    split
    · refine (variableR_w l.tail).bind fun v r h1 => (ih r).bind fun vs r2 h2 => ?_
      show ((v :: vs).map vrW).sum + tkW r2 ≤ _
      simp only [List.map_cons, List.sum_cons]
      omega
    · show 0 + tkW l ≤ _
      omega
theorem threadR_w (l : List Tk) : (threadR l).Lw thW (tkW l) :=
  (nameR_w l).bind fun x r h1 => (mustR_lw r (by decide)).bind fun _ r2 h2 => (localsR_w _ r2).bind fun vs r3 h3 => ((stmt_w _ 0 r3).2.2.2).bind fun b r4 h4 => by
    show x.length + 1 + (vs.map vrW).sum + stWs b + tkW r4 ≤ _
    omega
theorem declsR_w (f : Nat) : ∀ l : List Tk, (declsR f l).Lw (fun x => (x.1.map vrW).sum + (x.2.map fun m => m.length + 1).sum) (tkW l) := by
  induction f with
  | zero => exact fun l => trivial
  | succ f ih =>
    intro l
    have h0 := tkW_tail l
    rw [declsR]
    split
    · refine (variableR_w l.tail).bind fun v r h1 => (ih r).bind fun x r2 h2 => ?_
      show ((v :: x.1).map vrW).sum + (x.2.map fun m => m.length + 1).sum + tkW r2 ≤ _
      simp only [List.map_cons, List.sum_cons]
      omega
    · split
      · refine (nameR_w l.tail).bind fun m r h1 => (mustR_lw r (by decide)).bind fun _ r2 h2 => (ih r2).bind fun x r3 h3 => ?_
        show (x.1.map vrW).sum + ((m :: x.2).map fun m => m.length + 1).sum + tkW r3 ≤ _
        simp only [List.map_cons, List.sum_cons]
        omega
      · show 0 + tkW l ≤ _
        omega
theorem threadsR_w (f : Nat) : ∀ l : List Tk, (threadsR f l).Lw (fun ts => (ts.map thW).sum) (tkW l) := by
  induction f with
  | zero => exact fun l => trivial
  | succ f ih =>
    intro l
    have h0 := tkW_tail l
    rw [threadsR]
    split
    · refine (threadR_w l.tail).bind fun t r h1 => (ih r).bind fun ts r2 h2 => ?_
      show ((t :: ts).map thW).sum + tkW r2 ≤ _
      simp only [List.map_cons, List.sum_cons]
      omega
    · show 0 + tkW l ≤ _
      omega
theorem programR_w (l : List Tk) : (programR l).Lw pgW (tkW l) :=
  (declsR_w _ l).bind fun x r h1 => (threadsR_w _ r).bind fun ts r2 h2 => by
    show (x.1.map vrW).sum + (x.2.map fun m => m.length + 1).sum + (ts.map thW).sum + tkW r2 ≤ _
    omega

end Go.Proofs.YtjgggmjjikopeaaGreatDoor

/- What is printed is read: values and expressions. -/
namespace Go.Proofs.YtjgggmjjikopeaaGreatDoor
set_option linter.unusedVariables false

theorem dd_all : ∀ (N u : Nat), u < N → ∀ c ∈ Lib.decDigits u, 48 ≤ c.toNat ∧ c.toNat ≤ 57 := by
  intro N
  induction N with
  | zero => intro u h; omega
  | succ N ih =>
    intro u h c hc
    rw [Lib.decDigits] at hc
    split at hc
    · rw [List.mem_singleton] at hc
      subst hc
      have : (UInt8.ofNat (48 + u)).toNat = 48 + u := by simp; omega
      omega
    · rcases List.mem_append.1 hc with hc | hc
      · exact ih (u / 10) (by omega) c hc
      · rw [List.mem_singleton] at hc
        subst hc
        have : (UInt8.ofNat (48 + u % 10)).toNat = 48 + u % 10 := by simp; omega
        omega
theorem dd_dig (u : Nat) : ∀ c ∈ Lib.decDigits u, 48 ≤ c.toNat ∧ c.toNat ≤ 57 := dd_all (u + 1) u (by omega)
theorem dd_ne (u : Nat) : Lib.decDigits u ≠ [] := by
  rw [Lib.decDigits]
  split <;> simp
theorem dd_val : ∀ (N u : Nat), u < N → decVal (Lib.decDigits u) = u := by
  intro N
  induction N with
  | zero => intro u h; omega
  | succ N ih =>
    intro u h
    rw [Lib.decDigits]
    split
    · have : (UInt8.ofNat (48 + u)).toNat = 48 + u := by simp; omega
      simp only [decVal, List.foldl_cons, List.foldl_nil]
      omega
    · have : (UInt8.ofNat (48 + u % 10)).toNat = 48 + u % 10 := by simp; omega
      rw [val_snoc, ih (u / 10) (by omega), this]
      omega
theorem textOf_cases (h : Nat) (hp : Lib.hasPrefix (textOf h) [35] = false) : (h = NAN ∧ textOf h = [110, 97, 110]) ∨ (h = 9218868437227405312 ∧ textOf h = [105, 110, 102]) ∨ (h = 18442240474082181120 ∧ textOf h = [45, 105, 110, 102]) ∨
    (∃ k n, 1 ≤ k ∧ k ≤ 6 ∧ n < 1000000000000000 ∧ quo n (10 ^ k) = home h ∧ textOf h = litOf k n) ∨ (∃ k n, 1 ≤ k ∧ k ≤ 6 ∧ n < 1000000000000000 ∧ quo n (10 ^ k) = home (fneg h) ∧ textOf h = 45 :: litOf k n) := by
  unfold textOf at hp ⊢
  split
  · exact .inl ⟨by assumption, rfl⟩
  · rename_i h1
    rw [if_neg h1] at hp
    split
    · exact .inr (.inl ⟨by assumption, rfl⟩)
    · rename_i h2
      rw [if_neg h2] at hp
      split
      · exact .inr (.inr (.inl ⟨by assumption, rfl⟩))
      · rename_i h3
        rw [if_neg h3] at hp
        cases hq : pr h 1 6 with
        | some kn =>
          obtain ⟨k, n⟩ := kn
          obtain ⟨p1, p2, p3⟩ := pr_sound 6 1 k n h hq
          obtain ⟨p4, p5⟩ := digits_sound p3
          exact .inr (.inr (.inr (.inl ⟨k, n, p1, by omega, p5, p4, rfl⟩)))
        | none =>
          rw [hq] at hp
          cases hq2 : pr (fneg h) 1 6 with
          | some kn =>
            obtain ⟨k, n⟩ := kn
            obtain ⟨p1, p2, p3⟩ := pr_sound 6 1 k n (fneg h) hq2
            obtain ⟨p4, p5⟩ := digits_sound p3
            exact .inr (.inr (.inr (.inr ⟨k, n, p1, by omega, p5, p4, rfl⟩)))
          | none =>
            rw [hq2] at hp
            simp [Lib.hasPrefix] at hp
theorem valOk_type {t b : Nat} (h : valOk t b = true) : t = 1 ∨ t = 2 ∨ t = 3 := by
  unfold valOk at h
  split at h
  · exact .inl (by assumption)
  · split at h
    · exact .inr (.inl (by assumption))
    · split at h
      · exact .inr (.inr (by assumption))
      · cases h
theorem valOk3 {b : Nat} (h : valOk 3 b = true) : home b = b ∧ Lib.hasPrefix (textOf (home b)) [35] = false := by
  unfold valOk at h
  simp at h
  exact h
mutual
/-- All values are words of 64 bits. -/
def exOk : Ex → Prop
  | .mk _ _ b _ ks => b < 18446744073709551616 ∧ exOks ks
def exOks : List Ex → Prop
  | [] => True
  | e :: r => exOk e ∧ exOks r
end
mutual
def stOk : St → Prop
  | .mk _ _ e b c => exOk e ∧ stOks b ∧ stOks c
def stOks : List St → Prop
  | [] => True
  | e :: r => stOk e ∧ stOks r
end
def vrOk (v : Vr) : Prop := v.b < 18446744073709551616
def thOk (t : Th) : Prop := (∀ v ∈ t.locals, vrOk v) ∧ stOks t.body
def pgOk (p : Pg) : Prop := (∀ v ∈ p.shared, vrOk v) ∧ ∀ t ∈ p.threads, thOk t
theorem opnds_eq (op : Nat) (n : Nat) (h : (n : Int) = opnds op) : (n = 0 ∧ (op = 1 ∨ op = 2)) ∨ (n = 1 ∧ 16 ≤ op ∧ op < 20) ∨ (n = 2 ∧ 3 ≤ op ∧ op < 16) := by
  unfold opnds at h
  split at h
  · exact .inl ⟨by omega, by assumption⟩
  · split at h
    · exact .inr (.inl ⟨by omega, by omega⟩)
    · split at h
      · exact .inr (.inr ⟨by omega, by omega⟩)
      · omega

theorem dd_head : ∀ (N u : Nat), u < N → 1 ≤ u → ((Lib.decDigits u).getD 0 0).toNat ≠ 48 := by
  intro N
  induction N with
  | zero => intro u h; omega
  | succ N ih =>
    intro u h h1
    rw [Lib.decDigits]
    split
    · have : (UInt8.ofNat (48 + u)).toNat = 48 + u := by simp; omega
      show (UInt8.ofNat (48 + u)).toNat ≠ 48
      omega
    · have := ih (u / 10) (by omega) (by omega)
      cases h2 : Lib.decDigits (u / 10) with
      | nil => exact absurd h2 (dd_ne _)
      | cons c r => rw [h2] at this; exact this
theorem dd_good (u : Nat) (h : u ≤ 9223372036854775807) : GoodDec (Lib.decDigits u) := by
  have hv := dd_val (u + 1) u (Nat.lt_succ_self _)
  refine ⟨List.length_pos_iff.2 (dd_ne u), fun h0 => ?_, fun j hj => ?_, by omega⟩
  · by_cases h1 : 1 ≤ u
    · exact absurd h0 (dd_head (u + 1) u (Nat.lt_succ_self _) h1)
    · obtain rfl : u = 0 := by omega
      rw [Lib.decDigits]
      rfl
  · rw [List.getD_eq_getElem?_getD, List.getElem?_eq_getElem hj]
    exact dd_dig u _ (List.getElem_mem hj)

/-- No word of the language, no bracket. -/
theorem dig_head {c : UInt8} {q : List UInt8} (h : isDig c.toNat = true) : openOf (c :: q) = 0 ∧ c :: q ≠ [40] ∧ c :: q ≠ [45] ∧ (c ≠ 61 ∧ c ≠ 38 ∧ c ≠ 124) := by
  have e : ∀ (d : UInt8) (p : List UInt8), isDig d.toNat = false → c :: q ≠ d :: p := by
    intro d p hd e
    cases e
    rw [h] at hd
    cases hd
  refine ⟨?_, e _ _ (by decide), e _ _ (by decide), ?_⟩
  · unfold openOf
    rw [if_neg (e _ _ (by decide)), if_neg (e _ _ (by decide)), if_neg (e _ _ (by decide)), if_neg (e _ _ (by decide))]
  · refine ⟨?_, ?_, ?_⟩ <;> (rintro rfl; exact absurd h (by decide))
theorem dig_lit {tk : Tk} {c : UInt8} {q : List UInt8} (h : isDig c.toNat = true) (hx : tk.text = c :: q) (hk : tk.kind = 2 ∨ tk.kind = 3) : litTk tk = some (valT tk.kind, tk.bits) := by
  have e : ∀ (d : UInt8) (p : List UInt8), isDig d.toNat = false → tk.text ≠ d :: p := by
    intro d p hd e
    rw [hx] at e
    cases e
    rw [h] at hd
    cases hd
  unfold litTk
  rw [if_neg (e _ _ (by decide)), if_neg (e _ _ (by decide)), if_neg (e _ _ (by decide)), if_neg (e _ _ (by decide)), if_pos hk]
theorem good_head {x : List UInt8} (h : GoodDec x) : ∃ c q, x = c :: q ∧ isDig c.toNat = true := by
  cases x with
  | nil => exact absurd h.1 (by simp)
  | cons c q => exact ⟨c, q, rfl, good_dig h c List.mem_cons_self⟩
theorem lit_head {x : List UInt8} (h : IsLit x) : ∃ c q, x = c :: q ∧ isDig c.toNat = true := by
  have hs := lit_split h
  obtain ⟨c, q, e, hc⟩ := good_head h.2.2.2.1
  rw [e] at hs
  exact ⟨c, _, hs, hc⟩

/-- A text that is one token, a literal. -/
def OneLit (x : List UInt8) (v : Nat × Nat) : Prop := ∃ K, (∀ r kr, Sp r → LexTo r kr → LexTo (x ++ r) ((K, x) :: kr)) ∧
  (∀ tk : Tk, tk.kind = K → tk.text = x → tk.bits = valB K x → litTk tk = some v ∧ (signlessT tk = false ∨ v.1 = 2 ∨ v = (3, 9221120237041090560))) ∧ (openOf x = 0 ∧ x ≠ [40] ∧ x ≠ [45]) ∧ ∃ c q, x = c :: q ∧ c ≠ 61 ∧ c ≠ 38 ∧ c ≠ 124
theorem one_dec {x : List UInt8} (h : GoodDec x) : OneLit x (1, decVal x) := by
  obtain ⟨c, q, rfl, hc⟩ := good_head h
  obtain ⟨a, b, d, e⟩ := dig_head (q := q) hc
  refine ⟨2, fun r kr hr k => .num2 h hr k, fun tk h1 h2 h3 => ⟨?_, .inl ?_⟩, ⟨a, b, d⟩, c, q, rfl, e⟩
  · rw [dig_lit hc h2 (.inl h1), h1, h3]; rfl
  · simp [signlessT, h1]
theorem one_real {x : List UInt8} (h : IsLit x) : OneLit x (3, quo (litNum x) (10 ^ (behindOf x).length)) := by
  obtain ⟨c, q, e0, hc⟩ := lit_head h
  obtain ⟨a, b, d, e⟩ := dig_head (q := q) hc
  refine ⟨3, fun r kr hr k => .num3 h hr k, fun tk h1 h2 h3 => ⟨?_, .inl ?_⟩, by rw [e0]; exact ⟨a, b, d⟩, c, q, e0, e⟩
  · rw [dig_lit hc (h2.trans e0) (.inr h1), h1, h3]; rfl
  · simp [signlessT, h1]
theorem one_word {x : List UInt8} {v : Nat × Nat} (hx : (x = [116, 114, 117, 101] ∧ v = (2, 1)) ∨ (x = [102, 97, 108, 115, 101] ∧ v = (2, 0)) ∨ (x = [110, 97, 110] ∧ v = (3, 9221120237041090560)) ∨ (x = [105, 110, 102] ∧ v = (3, 9218868437227405312))) : OneLit x v := by
  rcases hx with ⟨rfl, rfl⟩ | ⟨rfl, rfl⟩ | ⟨rfl, rfl⟩ | ⟨rfl, rfl⟩
  all_goals refine ⟨1, fun r kr hr k => .word (by decide) (by decide) (by decide) hr k, fun tk h1 h2 h3 => ⟨by unfold litTk; rw [h2]; rfl, ?_⟩, by decide, _, _, rfl, by decide⟩
  · exact .inr (.inl rfl)
  · exact .inr (.inl rfl)
  · exact .inr (.inr rfl)
  · exact .inl (by simp [signlessT, h2])

/-- A value's text: a literal, or a sign and a literal. -/
theorem val_two {t b : Nat} (h : valOk t b = true) (hb : b < 18446744073709551616) : OneLit (valTx t b) (t, b) ∨ ∃ y v, valTx t b = 45 :: y ∧ OneLit y v ∧ v.1 = t ∧ negV v = (t, b) ∧ ¬ (v.1 = 2 ∨ v = (3, 9221120237041090560)) := by
  rcases valOk_type h with rfl | rfl | rfl
  · have e : valTx 1 b = Lib.itoa (sgn b) := rfl
    have hn : b ≠ 9223372036854775808 := by simpa [valOk] using h
    rw [e]
    unfold Lib.itoa sgn
    split
    · rename_i hlt
      rw [if_neg (by omega)]
      left
      have := one_dec (dd_good b (by omega))
      rw [dd_val (b + 1) b (Nat.lt_succ_self _)] at this
      simpa using this
    · rename_i hlt
      rw [if_pos (by omega)]
      right
      have hu : ((b : Int) - 18446744073709551616).natAbs = 18446744073709551616 - b := by omega
      rw [hu]
      have := one_dec (dd_good (18446744073709551616 - b) (by omega))
      rw [dd_val _ _ (Nat.lt_succ_self _)] at this
      refine ⟨_, _, rfl, this, rfl, ?_, by simp⟩
      unfold negV
      rw [if_pos rfl]
      dsimp only
      rw [show 18446744073709551616 - (18446744073709551616 - b) = b by omega, Nat.mod_eq_of_lt hb]
  · have e : valTx 2 b = Lib.formatBool (decide (b = 1)) := rfl
    have h1 : b ≤ 1 := by simpa [valOk] using h
    left
    rw [e]
    obtain rfl | rfl : b = 0 ∨ b = 1 := by omega
    · exact one_word (.inr (.inl ⟨by decide, rfl⟩))
    · exact one_word (.inl ⟨by decide, rfl⟩)
  · obtain ⟨a1, a2⟩ := valOk3 h
    have e : valTx 3 b = textOf (home b) := rfl
    rw [e]
    rw [a1] at a2 ⊢
    rcases textOf_cases b a2 with ⟨e1, ht⟩ | ⟨e1, ht⟩ | ⟨e1, ht⟩ | ⟨k, n, h1, h6, hn, hq, ht⟩ | ⟨k, n, h1, h6, hn, hq, ht⟩
    · left; rw [ht, e1]; exact one_word (.inr (.inr (.inl ⟨rfl, rfl⟩)))
    · left; rw [ht, e1]; exact one_word (.inr (.inr (.inr ⟨rfl, rfl⟩)))
    · right; rw [ht, e1]; exact ⟨_, _, rfl, one_word (.inr (.inr (.inr ⟨rfl, rfl⟩))), rfl, by decide, by decide⟩
    · left
      obtain ⟨l1, l2, l3, -⟩ := litOf_lit k n h1 h6 hn
      have := one_real l1
      rw [l2, l3, hq, a1] at this
      rw [ht]
      exact this
    · right
      obtain ⟨l1, l2, l3, -⟩ := litOf_lit k n h1 h6 hn
      have := one_real l1
      rw [l2, l3, hq] at this
      rw [ht]
      have ef : fneg (home (fneg b)) = b := by rw [home_fneg b hb, fneg_fneg hb, a1]
      refine ⟨_, _, rfl, this, rfl, ?_, ?_⟩
      · show (3, fneg (home (fneg b))) = (3, b)
        rw [ef]
      · rintro (h | h)
        · cases h
        · have h : home (fneg b) = 9221120237041090560 := congrArg Prod.snd h
          rw [h] at ef
          rw [← ef] at ht
          exact absurd ht (by
            rw [show textOf (fneg 9221120237041090560) = [110, 97, 110] by decide]
            intro h
            cases h)
theorem neg_pre {y : List UInt8} : Lib.hasPrefix (45 :: y) [45] = true := by simp [Lib.hasPrefix]
theorem lit_one {t b : Nat} (h : litOk t b = true) (hb : b < 18446744073709551616) : OneLit (valTx t b) (t, b) := by
  unfold litOk at h
  rw [Bool.and_eq_true] at h
  rcases val_two h.1 hb with h1 | ⟨y, v, e, -⟩
  · exact h1
  · have := h.2
    rw [e, neg_pre] at this
    cases this
/-- A value's text is read as it. -/
theorem val_one {t b : Nat} (h : valOk t b = true) (hb : b < 18446744073709551616) : ∃ ks, (∀ r kr, Sp r → LexTo r kr → LexTo (valTx t b ++ r) (ks ++ kr)) ∧ ∀ ts rest, Are ts ks → valueR t (ts ++ rest) = .ok (t, b) rest := by
  rcases val_two h hb with ⟨K, h1, h2, ⟨-, -, h3⟩, -⟩ | ⟨y, v, e, ⟨K, h1, h2, -, c, q, e2, hc⟩, hv, hn, hx⟩
  · refine ⟨[(K, valTx t b)], h1, fun ts rest ha => ?_⟩
    obtain ⟨tk, r, rfl, a1, a2, a3, a4⟩ := ha.cons
    rw [a4.nil]
    show valueR t (tk :: rest) = _
    unfold valueR
    rw [if_neg (show ¬ (hdT (tk :: rest)).text = [45] from a2 ▸ h3)]
    unfold valueM
    show (match litTk tk with | none => _ | some v => _) = _
    rw [(h2 tk a1 a2 a3).1]
    simp
  · refine ⟨[(4, [45]), (K, y)], fun r kr hr k => ?_, fun ts rest ha => ?_⟩
    · rw [e]
      exact .sign1 (by decide) (by rw [e2]; exact nq.of hc) (h1 r kr hr k)
    · obtain ⟨t0, r, rfl, b1, b2, b3, b4⟩ := ha.cons
      obtain ⟨tk, r, rfl, a1, a2, a3, a4⟩ := b4.cons
      rw [a4.nil]
      show valueR t (t0 :: tk :: rest) = _
      unfold valueR
      rw [if_pos (show (hdT (t0 :: tk :: rest)).text = [45] from b2)]
      unfold valueM
      obtain ⟨c1, c2⟩ := h2 tk a1 a2 a3
      have c2 : signlessT tk = false := by
        rcases c2 with c2 | c2
        · exact c2
        · exact absurd c2 hx
      show (match litTk tk with | none => _ | some v => if true && signlessT tk then _ else _) = _
      rw [c1]
      simp [c2, hv, hn]

theorem htL_le {l : List Ex} {n : Nat} (h : ∀ e ∈ l, htX e ≤ n) : htL l ≤ n := by
  induction l with
  | nil => exact Nat.zero_le _
  | cons e r ih =>
    rw [htL]
    have := h e List.mem_cons_self
    have := ih fun x hx => h x (List.mem_cons_of_mem _ hx)
    omega
theorem mayE_ht : ∀ (h : Nat) (e : Ex), mayE h e = true → htX e ≤ h := by
  intro h
  induction h with
  | zero => intro e hm; cases hm
  | succ h ih =>
    rintro ⟨op, t, b, nm, ks⟩ hm
    rw [mayE, Bool.and_eq_true, decide_eq_true_eq] at hm
    obtain ⟨ho, hm⟩ := hm
    rw [htX]
    rcases opnds_eq op ks.length ho with ⟨h0, hop⟩ | ⟨h1, hop⟩ | ⟨h2, hop⟩
    · rw [List.length_eq_zero_iff.1 h0]
      show 0 + 1 ≤ _
      omega
    all_goals
      rw [if_neg (by omega), if_neg (by omega), Bool.and_eq_true] at hm
      have := htL_le fun e he => ih e (List.all_eq_true.1 hm.1 e he)
      omega

theorem rowF_of {d n : Nat} {l r : List Tk} {x : Ex} {R : Rs Ex} (h : ∃ f, operF f d l = some (.ok x r)) (k : ∃ f, loopF f n 5 d x r = some R) : ∃ f, rowF f n d l = some R := by
  obtain ⟨f, h⟩ := h
  obtain ⟨g, k⟩ := k
  refine ⟨max f g + 1, ?_⟩
  rw [rowF, operF_le h (by omega)]
  exact loopF_le k (by omega)
theorem loop_stop {d n m : Nat} {l : List Tk} {x : Ex} (hn : 1 ≤ n) (h : (bindOf (hdT l).text).2 = 0) : ∃ f, loopF f n m d x l = some (.ok x l) := ⟨1, by rw [loopF, if_pos (.inl (by omega))]⟩
theorem loop_step {d n m op lv : Nat} {t : Tk} {l r : List Tk} {x y : Ex} {R : Rs Ex} (hb : bindOf t.text = (op, lv)) (h1 : n ≤ lv) (h2 : lv ≤ m) (h : ∃ f, rowF f (lv + 1) d l = some (.ok y r)) (hh : htX (.mk op 0 0 [] [x, y]) ≤ 32) (k : ∃ f, loopF f n (mostOf lv) d (.mk op 0 0 [] [x, y]) r = some R) : ∃ f, loopF f n m d x (t :: l) = some R := by
  obtain ⟨f, h⟩ := h
  obtain ⟨g, k⟩ := k
  refine ⟨max f g + 1, ?_⟩
  rw [loopF]
  show (if (bindOf t.text).2 < n ∨ m < (bindOf t.text).2 then _ else match rowF (max f g) ((bindOf t.text).2 + 1) d l with | none => _ | some (.bad e p) => _ | some (.ok y r) => match nodeR t.place (bindOf t.text).1 [x, y] r with | .bad e p => _ | .ok z r => loopF (max f g) n (mostOf (bindOf t.text).2) d z r) = _
  rw [hb]
  dsimp only
  rw [if_neg (by omega), rowF_le h (by omega)]
  dsimp only
  unfold nodeR
  rw [if_neg (by omega)]
  exact loopF_le k (by omega)
/-- An expression between brackets. -/
theorem brk_of {d : Nat} {t u : Tk} {l r : List Tk} {x : Ex} (h1 : t.text = [40]) (h2 : u.text = [41]) (h : ∃ f, rowF f 1 (d + 1) l = some (.ok x (u :: r))) : ∃ f, brkF f d (t :: l) = some (.ok x r) := by
  obtain ⟨f, h⟩ := h
  refine ⟨f + 1, ?_⟩
  rw [brkF, show mustR [40] (t :: l) = .ok () l by unfold mustR; exact if_pos h1]
  dsimp only
  rw [h]
  dsimp only
  rw [show mustR [41] (u :: r) = .ok () r by unfold mustR; exact if_pos h2]
theorem sg_facts : ∀ op, op < 16 → 3 ≤ op → sgT op ∈ signs ∧ ((sgT op).length = 1 ∨ (sgT op).length = 2) ∧ (bindOf (sgT op)).1 = op ∧ 1 ≤ (bindOf (sgT op)).2 ∧ (bindOf (sgT op)).2 ≤ 5 := by decide
theorem LexTo.sg {op : Nat} {r : List UInt8} {ks : List (Nat × List UInt8)} (h3 : 3 ≤ op) (h16 : op < 16) (k : LexTo (32 :: r) ks) : LexTo (sgT op ++ 32 :: r) ((4, sgT op) :: ks) := by
  obtain ⟨h, hl, -⟩ := sg_facts op h16 h3
  match hx : sgT op, hl with
  | [c], _ => exact .sign1 (hx ▸ h) (Sp.mk32 r).nq k
  | [c, d], _ => exact .sign2 (hx ▸ h) k

/-- What is printed of an expression is read as it. -/
theorem ex_both : ∀ (h : Nat) (e : Ex), mayE h e = true → exOk e → h ≤ 32 → ∃ ks, (∀ r kr, Sp r → LexTo r kr → LexTo (exT e ++ r) (ks ++ kr)) ∧
    (∀ d ts rest, d + h ≤ 33 → Are ts ks → ∃ f, operF f d (ts ++ rest) = some (.ok e rest)) ∧ ∃ c q, exT e = c :: q ∧ c ≠ 61 ∧ c ≠ 38 ∧ c ≠ 124 := by
  intro h
  induction h with
  | zero => intro e hm; cases hm
  | succ h ih =>
    rintro ⟨op, t, b, nm, ks⟩ hm hk h32
    have hht := mayE_ht _ _ hm
    rw [mayE, Bool.and_eq_true, decide_eq_true_eq] at hm
    obtain ⟨ho, hm⟩ := hm
    unfold exOk at hk
    have hne : ∀ x, mayE h x = true → 1 ≤ h := by
      intro x hx
      cases h with
      | zero => cases hx
      | succ h => omega
    rcases opnds_eq op ks.length ho with ⟨h0, hop⟩ | ⟨h1, hop⟩ | ⟨h2, hop⟩
    · have hks : ks = [] := List.length_eq_zero_iff.1 h0
      subst hks
      rcases hop with rfl | rfl
      · simp only [if_true, Bool.and_eq_true, decide_eq_true_eq] at hm
        obtain ⟨hl, rfl⟩ := hm
        obtain ⟨K, a1, a2, ⟨a3, a4, a5⟩, a6⟩ := lit_one hl hk.1
        refine ⟨[(K, valTx t b)], a1, fun d ts rest hd ha => ⟨1, ?_⟩, a6⟩
        obtain ⟨tk, r, rfl, b1, b2, b3, b4⟩ := ha.cons
        rw [b4.nil]
        show operF 1 d (tk :: rest) = _
        rw [operF, if_pos (show openOf (hdT (tk :: rest)).text = 0 ∧ (hdT (tk :: rest)).text ≠ [40] from b2.symm ▸ ⟨a3, a4⟩)]
        unfold leafR
        show some (match litTk tk with | some v => _ | none => _) = _
        rw [(a2 tk b1 b2 b3).1]
        rfl
      · simp only [show ¬ (2 : Nat) = 1 by decide, if_false, if_true, Bool.and_eq_true, decide_eq_true_eq] at hm
        obtain ⟨hn, rfl, rfl⟩ := hm
        have nw : ∀ x, x ∈ words → nm ≠ x := by
          rintro x hx rfl
          cases nm with
          | nil => exact absurd hn (by decide)
          | cons c r =>
            rw [isNm_eq] at hn
            simp [isWd, hx] at hn
        have ns : ∀ x, isNm x = false → nm ≠ x := by
          rintro x hx rfl
          rw [hx] at hn
          cases hn
        refine ⟨[(1, nm)], fun r kr hr k => .name hn hr k, fun d ts rest hd ha => ⟨1, ?_⟩, ?_⟩
        · obtain ⟨tk, r, rfl, b1, b2, b3, b4⟩ := ha.cons
          rw [b4.nil]
          have b2 : tk.text = nm := b2
          have b1 : tk.kind = 1 := b1
          show operF 1 d (tk :: rest) = _
          have o0 : openOf nm = 0 := by
            unfold openOf
            rw [if_neg (ns _ (by decide)), if_neg (ns _ (by decide)), if_neg (ns _ (by decide)), if_neg (ns _ (by decide))]
          rw [operF, if_pos (show openOf (hdT (tk :: rest)).text = 0 ∧ (hdT (tk :: rest)).text ≠ [40] from b2.symm ▸ ⟨o0, ns _ (by decide)⟩)]
          unfold leafR
          show some (match litTk tk with | some v => _ | none => if isNm tk.text then _ else _) = _
          have l0 : litTk tk = none := by
            unfold litTk
            rw [b2, if_neg (ns _ (by decide)), if_neg (ns _ (by decide)), if_neg (ns _ (by decide)), if_neg (ns _ (by decide)), if_neg (by omega)]
          rw [l0, b2, hn]
          show some (Rs.ok (Ex.mk 2 0 0 tk.text []) rest) = _
          rw [b2]
        · cases nm with
          | nil => exact absurd hn (by decide)
          | cons c r =>
            refine ⟨c, r, rfl, ?_⟩
            rw [isNm_eq] at hn
            simp only [Bool.and_eq_true] at hn
            have := hn.1.1.2
            refine ⟨?_, ?_, ?_⟩ <;> (rintro rfl; exact absurd this (by decide))
    · obtain ⟨x, rfl⟩ : ∃ x, ks = [x] := List.length_eq_one_iff.1 h1
      rw [if_neg (by omega), if_neg (by omega)] at hm
      simp only [List.all_cons, List.all_nil, Bool.and_true, Bool.and_eq_true, decide_eq_true_eq] at hm
      obtain ⟨hx, rfl, rfl, rfl⟩ := hm
      unfold exOks at hk
      obtain ⟨ks, a1, a2, c, q, a3, a4⟩ := ih x hx hk.2.1 (by omega)
      have h1 := hne x hx
      have hnq : ∀ r, nq (exT x ++ r) := fun r => by rw [a3]; exact nq.of a4
      have ho' : (∃ p : UInt8, (op = 16 ∨ op = 17) ∧ exT (.mk op 0 0 [] [x]) = p :: exT x ∧ [p] ∈ signs ∧ openOf [p] = op ∧ p ≠ 61 ∧ p ≠ 38 ∧ p ≠ 124) ∨ ∃ w : List UInt8, exT (.mk op 0 0 [] [x]) = w ++ (40 :: (exT x ++ [41])) ∧ w ∈ words ∧ openOf w = op ∧ (op = 18 ∨ op = 19) := by
        obtain rfl | rfl | rfl | rfl : op = 16 ∨ op = 17 ∨ op = 18 ∨ op = 19 := by omega
        · exact .inl ⟨45, .inl rfl, rfl, by decide, by decide, by decide⟩
        · exact .inl ⟨33, .inr rfl, rfl, by decide, by decide, by decide⟩
        · exact .inr ⟨[105, 110, 116], rfl, by decide, by decide, .inl rfl⟩
        · exact .inr ⟨[114, 101, 97, 108], rfl, by decide, by decide, .inr rfl⟩
      rcases ho' with ⟨p, hp, e, hs, hq, hne⟩ | ⟨w, e, hw, hq, hp⟩
      · refine ⟨(4, [p]) :: ks, fun r kr hr k => ?_, fun d ts rest hd ha => ?_, p, exT x, e, hne⟩
        · rw [e]
          exact .sign1 hs (hnq r) (a1 r kr hr k)
        · obtain ⟨tk, r, rfl, b1, b2, b3, b4⟩ := ha.cons
          obtain ⟨f, hf⟩ := a2 (d + 1) r rest (by omega) b4
          refine ⟨f + 1, ?_⟩
          have b2 : tk.text = [p] := b2
          show operF (f + 1) d (tk :: (r ++ rest)) = _
          rw [operF]
          show (if openOf tk.text = 0 ∧ tk.text ≠ [40] then _ else if 32 ≤ d then _ else if openOf tk.text = 16 ∨ openOf tk.text = 17 then match operF f (d + 1) (r ++ rest) with | none => _ | some (.bad e p) => _ | some (.ok y r) => some (nodeR tk.place (openOf tk.text) [y] r) else _) = _
          rw [b2, hq, if_neg (by omega), if_neg (by omega), if_pos hp, hf]
          dsimp only
          unfold nodeR
          rw [if_neg (by omega)]
      · refine ⟨(1, w) :: (4, [40]) :: (ks ++ [(4, [41])]), fun r kr hr k => ?_, fun d ts rest hd ha => ?_, ?_⟩
        · rw [e]
          have k2 := a1 (41 :: r) _ (Sp.mk41 r) (.sign1 (by decide) hr.nq k)
          have k3 := LexTo.sign1 (c := 40) (by decide) (hnq (41 :: r)) k2
          have hw2 : ∀ w ∈ words, w.length ≤ 24 ∧ isLet (w.headD 0).toNat = true ∧ allAl w = true := by decide
          obtain ⟨w1, w2, w3⟩ := hw2 w hw
          have k4 := LexTo.word w1 w2 w3 ⟨40, _, rfl, .inr (.inl rfl)⟩ k3
          simpa using k4
        · obtain ⟨t0, r, rfl, b1, b2, b3, b4⟩ := ha.cons
          obtain ⟨t1, r, rfl, c1, c2, c3, c4⟩ := b4.cons
          obtain ⟨xs, y, rfl, d1, d2⟩ := c4.app
          obtain ⟨t2, r, rfl, e1, e2, e3, e4⟩ := d2.cons
          rw [e4.nil]
          have b2 : t0.text = w := b2
          obtain ⟨f, hf⟩ := brk_of (d := d) (t := t1) (u := t2) (l := xs ++ t2 :: rest) (r := rest) c2 e2 (rowF_of (a2 (d + 1) xs (t2 :: rest) (by omega) d1) (loop_stop (Nat.le_refl _) (by rw [show (hdT (t2 :: rest)).text = [41] from e2]; rfl)))
          refine ⟨f + 1, ?_⟩
          have el : (t0 :: t1 :: (xs ++ [t2])) ++ rest = t0 :: t1 :: (xs ++ t2 :: rest) := by simp
          rw [el, operF]
          show (if openOf t0.text = 0 ∧ t0.text ≠ [40] then _ else if 32 ≤ d then _ else if openOf t0.text = 16 ∨ openOf t0.text = 17 then _ else if openOf t0.text = 0 then _ else match brkF f d (t1 :: (xs ++ t2 :: rest)) with | none => _ | some (.bad e p) => _ | some (.ok y r) => some (nodeR t0.place (openOf t0.text) [y] r)) = _
          rw [b2, hq, if_neg (by omega), if_neg (by omega), if_neg (by omega), if_neg (by omega), hf]
          dsimp only
          unfold nodeR
          rw [if_neg (by omega)]
        · have hw3 : ∀ w ∈ words, ∃ c q, w = c :: q ∧ c ≠ 61 ∧ c ≠ 38 ∧ c ≠ 124 := by
            intro w hw
            simp only [words, List.mem_cons, List.not_mem_nil, or_false] at hw
            rcases hw with rfl | rfl | rfl | rfl | rfl | rfl | rfl | rfl | rfl | rfl | rfl | rfl | rfl | rfl | rfl | rfl | rfl | rfl <;> exact ⟨_, _, rfl, by decide⟩
          obtain ⟨c, q, rfl, h⟩ := hw3 w hw
          exact ⟨c, _, e, h⟩
    · obtain ⟨x, y, rfl⟩ : ∃ x y, ks = [x, y] := by
        match ks, h2 with
        | [x, y], _ => exact ⟨x, y, rfl⟩
      rw [if_neg (by omega), if_neg (by omega)] at hm
      simp only [List.all_cons, List.all_nil, Bool.and_true, Bool.and_eq_true, decide_eq_true_eq] at hm
      obtain ⟨⟨hx, hy⟩, rfl, rfl, rfl⟩ := hm
      unfold exOks exOks at hk
      obtain ⟨ka, a1, a2, c, q, a3, a4⟩ := ih x hx hk.2.1 (by omega)
      obtain ⟨kb, b1, b2, -⟩ := ih y hy hk.2.2.1 (by omega)
      have h1 := hne x hx
      have e : exT (.mk op 0 0 [] [x, y]) = 40 :: (exT x ++ 32 :: (sgT op ++ 32 :: (exT y ++ [41]))) := by rw [exT, if_neg (by omega), if_neg (by omega)]
      obtain ⟨s1, s2, s3, s4, s5⟩ := sg_facts op hop.2 hop.1
      refine ⟨(4, [40]) :: (ka ++ (4, sgT op) :: (kb ++ [(4, [41])])), fun r kr hr k => ?_, fun d ts rest hd ha => ?_, 40, _, e, by decide⟩
      · rw [e]
        have k2 := b1 (41 :: r) _ (Sp.mk41 r) (.sign1 (by decide) hr.nq k)
        have k3 := LexTo.sg (op := op) hop.1 hop.2 (LexTo.bl (c := 32) (by decide) k2)
        have k4 := a1 _ _ (Sp.mk32 _) (LexTo.bl (c := 32) (by decide) k3)
        have k5 := LexTo.sign1 (c := 40) (by decide) (by rw [a3]; exact nq.of a4) k4
        simpa using k5
      · obtain ⟨t0, r, rfl, u1, u2, u3, u4⟩ := ha.cons
        obtain ⟨xs, r, rfl, v1, v2⟩ := u4.app
        obtain ⟨t1, r, rfl, w1, w2, w3, w4⟩ := v2.cons
        obtain ⟨ys, r, rfl, x1, x2⟩ := w4.app
        obtain ⟨t2, r, rfl, y1, y2, y3, y4⟩ := x2.cons
        rw [y4.nil]
        have y2 : t2.text = [41] := y2
        have w2 : t1.text = sgT op := w2
        have z : (bindOf (hdT (t2 :: rest)).text).2 = 0 := by show (bindOf t2.text).2 = 0; rw [y2]; rfl
        have hb : bindOf t1.text = (op, (bindOf (sgT op)).2) := by rw [w2]; exact Prod.ext s3 rfl
        have r1 := rowF_of (n := (bindOf (sgT op)).2 + 1) (b2 (d + 1) ys (t2 :: rest) (by omega) x1) (loop_stop (by omega) z)
        have r2 := loop_step (n := 1) (m := 5) hb s4 s5 r1 (x := x) (by omega) (loop_stop (Nat.le_refl _) z)
        have r3 := rowF_of (n := 1) (a2 (d + 1) xs (t1 :: (ys ++ t2 :: rest)) (by omega) v1) r2
        obtain ⟨f, hf⟩ := brk_of (d := d) (t := t0) (u := t2) (r := rest) u2 y2 r3
        refine ⟨f + 1, ?_⟩
        have el : (t0 :: (xs ++ t1 :: (ys ++ [t2]))) ++ rest = t0 :: (xs ++ t1 :: (ys ++ t2 :: rest)) := by simp
        rw [el, operF]
        have u2 : t0.text = [40] := u2
        show (if openOf t0.text = 0 ∧ t0.text ≠ [40] then _ else if 32 ≤ d then _ else if openOf t0.text = 16 ∨ openOf t0.text = 17 then _ else if openOf t0.text = 0 then brkF f d (t0 :: (xs ++ t1 :: (ys ++ t2 :: rest))) else _) = _
        rw [u2, if_neg (by decide), if_neg (by omega), if_neg (by decide), if_pos (by decide), hf]

/-- An expression of a statement. -/
theorem expr_both {e : Ex} (hm : mayE 32 e = true) (hk : exOk e) : ∃ ks, (∀ r kr, Sp r → LexTo r kr → LexTo (exT e ++ r) (ks ++ kr)) ∧
    (∀ ts rest, Are ts ks → (bindOf (hdT rest).text).2 = 0 → exprR (ts ++ rest) = .ok e rest) ∧ ∀ r, nq (exT e ++ r) := by
  obtain ⟨ks, h1, h2, c, q, e1, e2⟩ := ex_both 32 e hm hk (Nat.le_refl _)
  refine ⟨ks, h1, fun ts rest ha hb => ?_, fun r => by rw [e1]; exact nq.of e2⟩
  obtain ⟨f, hf⟩ := rowF_of (n := 1) (h2 0 ts rest (by omega) ha) (loop_stop (Nat.le_refl _) hb)
  exact row_one (exprR_row _) hf

end Go.Proofs.YtjgggmjjikopeaaGreatDoor

/- Trees that came in are opened. -/
namespace Go.Proofs.YtjgggmjjikopeaaGreatDoor
open Go.ChangeShapes Go.WideShapes Go.ChangeAt Go.RowKit
set_option linter.unusedVariables false

section
variable {H : Type} {enc : TypeId × Value → H} {w : World} {sp : Nat → Bool} {held : Bool}

end
end Go.Proofs.YtjgggmjjikopeaaGreatDoor

/- Expressions, statements and programs that came in are opened. -/
namespace Go.Proofs.YtjgggmjjikopeaaGreatDoor
open Go.ChangeShapes Go.WideShapes Go.ChangeAt Go.RowKit
set_option linter.unusedVariables false

theorem ET.Row.of {B g : Nat} {w : World} : ∀ {ks : List ET} {o : Nat}, (∀ (i : Nat) (e : ET), ks[i]? = some e → w.rangeAt g (o + i * 5) e.cells ∧ e.In B w) → ET.Row B w g ks o
  | [], o, _ => trivial
  | e :: r, o, h => by
    unfold ET.Row
    refine ⟨by simpa using (h 0 e rfl).1, (h 0 e rfl).2, ET.Row.of fun i x hx => ?_⟩
    have := h (i + 1) x (by simpa using hx)
    rwa [show o + (i + 1) * 5 = o + 5 + i * 5 by omega] at this
theorem ST.Row.of {B g : Nat} {w : World} : ∀ {ks : List ST} {o : Nat}, (∀ (i : Nat) (e : ST), ks[i]? = some e → w.rangeAt g (o + i * 9) e.cells ∧ e.In B w) → ST.Row B w g ks o
  | [], o, _ => trivial
  | e :: r, o, h => by
    unfold ST.Row
    refine ⟨by simpa using (h 0 e rfl).1, (h 0 e rfl).2, ST.Row.of fun i x hx => ?_⟩
    have := h (i + 1) x (by simpa using hx)
    rwa [show o + (i + 1) * 9 = o + 9 + i * 9 by omega] at this

theorem c9 : Tryz.prog.cellsOf 9 = 1 := by kernel_rfl
theorem c3 : Tryz.prog.cellsOf 3 = 1 := by kernel_rfl
section
variable {H : Type} {enc : TypeId × Value → H} {w : World} {sp : Nat → Bool} {held : Bool}

end
end Go.Proofs.YtjgggmjjikopeaaGreatDoor

/- Programs that came in are opened. -/
namespace Go.Proofs.YtjgggmjjikopeaaGreatDoor
open Go.ChangeShapes Go.WideShapes Go.ChangeAt Go.RowKit
set_option linter.unusedVariables false

section
variable {H : Type} {enc : TypeId × Value → H} {w : World} {sp : Nat → Bool} {held : Bool}

end
end Go.Proofs.YtjgggmjjikopeaaGreatDoor

/- What is printed is read: statements. -/
namespace Go.Proofs.YtjgggmjjikopeaaGreatDoor
set_option linter.unusedVariables false

mutual
/-- Whether all blocks, empty ones too, stand at most 32 deep. -/
def wiS (d : Nat) : St → Bool
  | .mk k _ _ b c => !((decide (k = 5) || decide (k = 6)) && decide (d = 32)) && (wiB (d + 1) b && wiB (d + 1) c)
def wiB (d : Nat) : List St → Bool
  | [] => true
  | s :: r => wiS d s && wiB d r
end

theorem must_ok {t : Tk} {x : List UInt8} (h : t.text = x) (r : List Tk) : mustR x (t :: r) = .ok () r := by unfold mustR; exact if_pos h
theorem name_ok {t : Tk} {x : List UInt8} (h : t.text = x) (hx : isNm x = true) (r : List Tk) : nameR (t :: r) = .ok x r := by
  unfold nameR
  show (if isNm t.text then Rs.ok t.text r else _) = _
  rw [h, hx]
  rfl
theorem nm_no {x : List UInt8} (hx : isNm x = true) {y : List UInt8} (hy : isNm y = false) : x ≠ y := by
  rintro rfl
  rw [hx] at hy
  cases hy
theorem block_ok {d f : Nat} {t u : Tk} {bs rest : List Tk} {b : List St} (hd : d < 32) (ht : t.text = [123]) (h : stmtsR f (d + 1) (bs ++ u :: rest) = .ok b rest) : blockR (f + 1) d (t :: (bs ++ u :: rest)) = .ok b rest := by
  rw [blockR, must_ok ht, Rs.bind_ok, if_neg (by omega), h]
theorem nq10 (r : List UInt8) : nq (10 :: r) := nq.of (by decide)
theorem nq32 (r : List UInt8) : nq (32 :: r) := nq.of (by decide)
theorem LexTo.bl10 {r : List UInt8} {ks : List (Nat × List UInt8)} (k : LexTo r ks) : LexTo (10 :: r) ks := .bl (by decide) k
theorem LexTo.bl32 {r : List UInt8} {ks : List (Nat × List UInt8)} (k : LexTo r ks) : LexTo (32 :: r) ks := .bl (by decide) k
/-- A sign, and a blank or a line's end behind it. -/
theorem LexTo.semi {r : List UInt8} {ks : List (Nat × List UInt8)} (k : LexTo r ks) : LexTo (59 :: 10 :: r) ((4, [59]) :: ks) := .sign1 (by decide) (nq10 r) k.bl10
theorem LexTo.opn {r : List UInt8} {ks : List (Nat × List UInt8)} (k : LexTo r ks) : LexTo (123 :: 10 :: r) ((4, [123]) :: ks) := .sign1 (by decide) (nq10 r) k.bl10
theorem LexTo.shut {r : List UInt8} {ks : List (Nat × List UInt8)} (k : LexTo r ks) : LexTo (125 :: 10 :: r) ((4, [125]) :: ks) := .sign1 (by decide) (nq10 r) k.bl10
theorem LexTo.is {r : List UInt8} {ks : List (Nat × List UInt8)} (k : LexTo r ks) : LexTo (61 :: 32 :: r) ((4, [61]) :: ks) := .sign1 (by decide) (nq32 r) k.bl32
theorem LexTo.wd {x r : List UInt8} {ks : List (Nat × List UInt8)} (hx : x ∈ words) (k : LexTo r ks) : LexTo (x ++ 32 :: r) ((1, x) :: ks) := by
  have hw : ∀ w ∈ words, w.length ≤ 24 ∧ isLet (w.headD 0).toNat = true ∧ allAl w = true := by decide
  obtain ⟨w1, w2, w3⟩ := hw x hx
  exact .word w1 w2 w3 (Sp.mk32 r) k.bl32
theorem LexTo.nm {x r : List UInt8} {ks : List (Nat × List UInt8)} (hx : isNm x = true) (k : LexTo r ks) : LexTo (x ++ 32 :: r) ((1, x) :: ks) := .name hx (Sp.mk32 r) k.bl32

/-- Which way a statement is read. -/
theorem simple_1 {l : List Tk} (h : isNm (hdT l).text = true) : simpleR l = (nameR l).bind fun x r => (mustR [61] r).bind fun _ r => (exprR r).bind fun e r => .ok (.mk 1 x e [] []) r := by
  unfold simpleR
  rw [if_neg (nm_no h (by decide)), if_neg (nm_no h (by decide)), if_neg (nm_no h (by decide)), if_neg (nm_no h (by decide))]
theorem simple_2 {l : List Tk} (h : (hdT l).text = [108, 111, 99, 107]) : simpleR l = (nameR l.tail).bind fun x r => .ok (.mk 2 x noE [] []) r := by
  unfold simpleR
  rw [if_pos h]
theorem simple_3 {l : List Tk} (h : (hdT l).text = [117, 110, 108, 111, 99, 107]) : simpleR l = (nameR l.tail).bind fun x r => .ok (.mk 3 x noE [] []) r := by
  unfold simpleR
  rw [if_neg (by rw [h]; decide), if_pos h]
theorem simple_4 {l : List Tk} (h : (hdT l).text = [97, 115, 115, 101, 114, 116]) : simpleR l = (exprR l.tail).bind fun e r => .ok (.mk 4 [] e [] []) r := by
  unfold simpleR
  rw [if_neg (by rw [h]; decide), if_neg (by rw [h]; decide), if_pos h]
theorem simple_7 {l : List Tk} (h : (hdT l).text = [115, 107, 105, 112]) : simpleR l = .ok (.mk 7 [] noE [] []) l.tail := by
  unfold simpleR
  rw [if_neg (by rw [h]; decide), if_neg (by rw [h]; decide), if_neg (by rw [h]; decide), if_pos h]
theorem stmt_if {f d : Nat} {l : List Tk} (h : (hdT l).text = [105, 102]) : stmtR (f + 1) d l = (exprR l.tail).bind fun e r => (blockR f d r).bind fun b r => (elseR f d r).bind fun c r => .ok (.mk 5 [] e b c) r := by rw [stmtR, if_pos h]
theorem stmt_while {f d : Nat} {l : List Tk} (h : (hdT l).text = [119, 104, 105, 108, 101]) : stmtR (f + 1) d l = (exprR l.tail).bind fun e r => (blockR f d r).bind fun b r => .ok (.mk 6 [] e b []) r := by rw [stmtR, if_neg (by rw [h]; decide), if_pos h]
theorem stmt_simple {f d : Nat} {l : List Tk} (h1 : (hdT l).text ≠ [105, 102]) (h2 : (hdT l).text ≠ [119, 104, 105, 108, 101]) : stmtR (f + 1) d l = (simpleR l).bind fun s r => (mustR [59] r).bind fun _ r => .ok s r := by rw [stmtR, if_neg h1, if_neg h2]
theorem else_yes {f d : Nat} {l : List Tk} (h : (hdT l).text = [101, 108, 115, 101]) : elseR (f + 1) d l = blockR f d l.tail := by rw [elseR, if_pos h]

/-- What a statement does not begin with. -/
def Odd (x : List UInt8) : Prop := x ≠ [125] ∧ x ≠ [101, 108, 115, 101] ∧ x ≠ [108, 111, 99, 97, 108]
theorem nm_odd {x : List UInt8} (h : isNm x = true) : Odd x := ⟨nm_no h (by decide), nm_no h (by decide), nm_no h (by decide)⟩

/-- What is printed of a statement is read as it. -/
def StBoth (d : Nat) (bl : List UInt8) (s : St) : Prop := ∃ k0 ks, Odd k0.2 ∧ (∀ r kr, LexTo r kr → LexTo (stT bl s ++ 10 :: r) (k0 :: (ks ++ kr))) ∧
  ∀ ts rest f, Are ts (k0 :: ks) → ts.length ≤ f → (hdT rest).text ≠ [101, 108, 115, 101] → stmtR f d (ts ++ rest) = .ok s rest
def BlBoth (d : Nat) (bl : List UInt8) (l : List St) : Prop := ∃ ks, (∀ r kr, LexTo r kr → LexTo (blT bl l ++ r) (ks ++ kr)) ∧
  (∀ ts u rest f, Are ts ks → u.text = [125] → ts.length + 1 ≤ f → stmtsR f d (ts ++ u :: rest) = .ok l rest) ∧
  ∀ ts u rest, Are ts ks → u.text = [125] → (hdT (ts ++ u :: rest)).text ≠ [101, 108, 115, 101] ∧ (hdT (ts ++ u :: rest)).text ≠ [108, 111, 99, 97, 108]

/-- Statements without blocks. -/
theorem simple_both {d : Nat} {bl : List UInt8} {s : St} {k0 : Nat × List UInt8} {ks : List (Nat × List UInt8)} (h0 : Odd k0.2) (h1 : k0.2 ≠ [105, 102]) (h2 : k0.2 ≠ [119, 104, 105, 108, 101])
    (hl : ∀ r kr, LexTo r kr → LexTo (stT bl s ++ 10 :: r) (k0 :: (ks ++ (4, [59]) :: kr)))
    (hr : ∀ ts u rest, Are ts (k0 :: ks) → u.text = [59] → simpleR (ts ++ u :: rest) = .ok s (u :: rest)) : StBoth d bl s := by
  refine ⟨k0, ks ++ [(4, [59])], h0, fun r kr k => by simpa using hl r kr k, fun ts rest f ha hf he => ?_⟩
  obtain ⟨xs, ys, rfl, a1, a2⟩ := Are.app (a := k0 :: ks) (by simpa using ha)
  obtain ⟨u, r, rfl, b1, b2, b3, b4⟩ := a2.cons
  rw [b4.nil]
  obtain ⟨t, ts, rfl, c1, c2, c3, c4⟩ := a1.cons
  obtain ⟨f, rfl⟩ : ∃ g, f = g + 1 := ⟨f - 1, by simp at hf; omega⟩
  have := hr (t :: ts) u rest a1 b2
  rw [List.append_assoc]
  show stmtR (f + 1) d (t :: ts ++ u :: rest) = _
  rw [stmt_simple (l := t :: ts ++ u :: rest) (show t.text ≠ _ by rw [c2]; exact h1) (show t.text ≠ _ by rw [c2]; exact h2), this, Rs.bind_ok, must_ok b2, Rs.bind_ok]

mutual
theorem st_both : ∀ (d : Nat) (bl : List UInt8) (s : St), (∀ c ∈ bl, c = 32) → mayS d s = true → wiS d s = true → d ≤ 32 → stOk s → StBoth d bl s
  | d, bl, .mk k nm e b c, hbl, hm, hw, hd, hk => by
    unfold stOk at hk
    rw [mayS] at hm
    rw [wiS, Bool.and_eq_true, Bool.and_eq_true] at hw
    have hbl2 : ∀ c ∈ bl ++ [32, 32], c = 32 := by
      intro c hc
      rcases List.mem_append.1 hc with h | h
      · exact hbl c h
      · simpa using h
    by_cases h1 : k = 1
    · subst h1
      rw [if_pos rfl] at hm
      simp only [Bool.and_eq_true] at hm
      obtain ⟨hn, he, hb, hc⟩ := hm
      rw [List.isEmpty_iff] at hb hc
      subst hb hc
      obtain ⟨ke, l1, r1, -⟩ := expr_both he hk.1
      refine simple_both (k0 := (1, nm)) (ks := (4, [61]) :: ke) (nm_odd hn) (nm_no hn (by decide)) (nm_no hn (by decide)) (fun r kr k => ?_) (fun ts u rest ha hu => ?_)
      · have := LexTo.nm hn (LexTo.is (l1 (59 :: 10 :: r) _ (Sp.mk59 _) k.semi))
        rw [stT, if_pos rfl]
        simpa using this
      · obtain ⟨t0, r, rfl, a1, a2, a3, a4⟩ := ha.cons
        obtain ⟨t1, r, rfl, b1, b2, b3, b4⟩ := a4.cons
        have a2 : t0.text = nm := a2
        show simpleR (t0 :: t1 :: (r ++ u :: rest)) = _
        rw [simple_1 (l := t0 :: t1 :: (r ++ u :: rest)) (show isNm t0.text = true by rw [a2]; exact hn), name_ok a2 hn, Rs.bind_ok, must_ok b2, Rs.bind_ok, r1 r (u :: rest) b4 (by show (bindOf u.text).2 = 0; rw [hu]; rfl), Rs.bind_ok]
    · rw [if_neg h1] at hm
      by_cases h23 : k = 2 ∨ k = 3
      · rw [if_pos h23] at hm
        simp only [Bool.and_eq_true] at hm
        obtain ⟨hn, he, hb, hc⟩ := hm
        rw [List.isEmpty_iff] at hb hc
        rw [samX_eq] at he
        subst hb hc he
        obtain ⟨w, hw1, hw2, hw3⟩ : ∃ w : List UInt8, stT bl (.mk k nm noE [] []) = w ++ 32 :: (nm ++ [59]) ∧ w ∈ words ∧ ((w = [108, 111, 99, 107] ∧ k = 2) ∨ (w = [117, 110, 108, 111, 99, 107] ∧ k = 3)) := by
          rcases h23 with rfl | rfl
          · exact ⟨[108, 111, 99, 107], by rw [stT, if_neg (by decide), if_pos rfl]; rfl, by decide, .inl ⟨rfl, rfl⟩⟩
          · exact ⟨[117, 110, 108, 111, 99, 107], by rw [stT, if_neg (by decide), if_neg (by decide), if_pos rfl]; rfl, by decide, .inr ⟨rfl, rfl⟩⟩
        have hne : Odd w ∧ w ≠ [105, 102] ∧ w ≠ [119, 104, 105, 108, 101] := by rcases hw3 with ⟨rfl, -⟩ | ⟨rfl, -⟩ <;> (unfold Odd; decide)
        refine simple_both (k0 := (1, w)) (ks := [(1, nm)]) hne.1 hne.2.1 hne.2.2 (fun r kr k => ?_) (fun ts u rest ha hu => ?_)
        · have := LexTo.wd hw2 (LexTo.name hn (Sp.mk59 _) k.semi)
          rw [hw1]
          simpa using this
        · obtain ⟨t0, r, rfl, a1, a2, a3, a4⟩ := ha.cons
          obtain ⟨t1, r, rfl, b1, b2, b3, b4⟩ := a4.cons
          rw [b4.nil]
          have a2 : t0.text = w := a2
          have b2 : t1.text = nm := b2
          show simpleR (t0 :: t1 :: u :: rest) = _
          rcases hw3 with ⟨rfl, rfl⟩ | ⟨rfl, rfl⟩
          · rw [simple_2 (l := t0 :: t1 :: u :: rest) a2, List.tail_cons, name_ok b2 hn, Rs.bind_ok]
          · rw [simple_3 (l := t0 :: t1 :: u :: rest) a2, List.tail_cons, name_ok b2 hn, Rs.bind_ok]
      · rw [if_neg h23] at hm
        by_cases h4 : k = 4
        · subst h4
          rw [if_pos rfl] at hm
          simp only [Bool.and_eq_true, decide_eq_true_eq] at hm
          obtain ⟨rfl, he, hb, hc⟩ := hm
          rw [List.isEmpty_iff] at hb hc
          subst hb hc
          obtain ⟨ke, l1, r1, -⟩ := expr_both he hk.1
          refine simple_both (k0 := (1, [97, 115, 115, 101, 114, 116])) (ks := ke) (by unfold Odd; decide) (by decide) (by decide) (fun r kr k => ?_) (fun ts u rest ha hu => ?_)
          · have := LexTo.wd (x := [97, 115, 115, 101, 114, 116]) (by decide) (l1 (59 :: 10 :: r) _ (Sp.mk59 _) k.semi)
            rw [stT, if_neg (by decide), if_neg (by decide), if_neg (by decide), if_pos rfl]
            simpa using this
          · obtain ⟨t0, r, rfl, a1, a2, a3, a4⟩ := ha.cons
            have a2 : t0.text = [97, 115, 115, 101, 114, 116] := a2
            show simpleR (t0 :: (r ++ u :: rest)) = _
            rw [simple_4 (l := t0 :: (r ++ u :: rest)) a2, List.tail_cons, r1 r (u :: rest) a4 (by show (bindOf u.text).2 = 0; rw [hu]; rfl), Rs.bind_ok]
        · rw [if_neg h4] at hm
          by_cases h5 : k = 5
          · subst h5
            rw [if_pos rfl] at hm
            simp only [Bool.and_eq_true, decide_eq_true_eq] at hm
            obtain ⟨rfl, he, hb, hc⟩ := hm
            have hd2 : d < 32 := by
              have := hw.1
              simp at this
              omega
            obtain ⟨ke, l1, r1, -⟩ := expr_both he hk.1
            obtain ⟨kb, l2, r2, -⟩ := bl_both (d + 1) (bl ++ [32, 32]) b hbl2 hb hw.2.1 hk.2.1
            obtain ⟨kc, l3, r3, -⟩ := bl_both (d + 1) (bl ++ [32, 32]) c hbl2 hc hw.2.2 hk.2.2
            cases hce : c.isEmpty with
            | true =>
              rw [List.isEmpty_iff] at hce
              subst hce
              refine ⟨(1, [105, 102]), ke ++ (4, [123]) :: (kb ++ [(4, [125])]), by unfold Odd; decide, fun r kr k => ?_, fun ts rest f ha hf hel => ?_⟩
              · have := LexTo.wd (x := [105, 102]) (by decide) (l1 _ _ (Sp.mk32 _) (LexTo.bl32 (LexTo.opn (l2 _ _ (LexTo.bls hbl k.shut)))))
                rw [stT, if_neg (by decide), if_neg (by decide), if_neg (by decide), if_neg (by decide), if_pos rfl]
                simpa using this
              · obtain ⟨t0, r, rfl, a1, a2, a3, a4⟩ := ha.cons
                obtain ⟨es, r, rfl, b1, b2⟩ := a4.app
                obtain ⟨t1, r, rfl, c1, c2, c3, c4⟩ := b2.cons
                obtain ⟨bs, r, rfl, e1, e2⟩ := c4.app
                obtain ⟨t2, r, rfl, g1, g2, g3, g4⟩ := e2.cons
                rw [g4.nil] at hf ⊢
                have a2 : t0.text = [105, 102] := a2
                have c2 : t1.text = [123] := c2
                have g2 : t2.text = [125] := g2
                simp only [List.length_cons, List.length_append, List.length_nil] at hf
                obtain ⟨f, rfl⟩ : ∃ g, f = g + 1 + 1 := ⟨f - 2, by omega⟩
                have el : (t0 :: (es ++ t1 :: (bs ++ [t2]))) ++ rest = t0 :: (es ++ t1 :: (bs ++ t2 :: rest)) := by simp
                rw [el, stmt_if (l := t0 :: (es ++ t1 :: (bs ++ t2 :: rest))) a2, List.tail_cons, r1 es _ b1 (by show (bindOf t1.text).2 = 0; rw [c2]; rfl), Rs.bind_ok, block_ok hd2 c2 (r2 bs t2 rest f e1 g2 (by omega)), Rs.bind_ok, elseR, if_neg hel, Rs.bind_ok]
            | false =>
              refine ⟨(1, [105, 102]), ke ++ (4, [123]) :: (kb ++ (4, [125]) :: (1, [101, 108, 115, 101]) :: (4, [123]) :: (kc ++ [(4, [125])])), by unfold Odd; decide, fun r kr k => ?_, fun ts rest f ha hf hel => ?_⟩
              · have m1 := l3 _ _ (LexTo.bls hbl k.shut)
                have m2 := LexTo.bls hbl (LexTo.sign1 (c := 125) (by decide) (nq32 _) (LexTo.bl32 (LexTo.wd (x := [101, 108, 115, 101]) (by decide) (LexTo.opn m1))))
                have := LexTo.wd (x := [105, 102]) (by decide) (l1 _ _ (Sp.mk32 _) (LexTo.bl32 (LexTo.opn (l2 _ _ m2))))
                rw [stT, if_neg (by decide), if_neg (by decide), if_neg (by decide), if_neg (by decide), if_pos rfl, hce]
                simpa using this
              · obtain ⟨t0, r, rfl, a1, a2, a3, a4⟩ := ha.cons
                obtain ⟨es, r, rfl, b1, b2⟩ := a4.app
                obtain ⟨t1, r, rfl, c1, c2, c3, c4⟩ := b2.cons
                obtain ⟨bs, r, rfl, e1, e2⟩ := c4.app
                obtain ⟨t2, r, rfl, g1, g2, g3, g4⟩ := e2.cons
                obtain ⟨t3, r, rfl, i1, i2, i3, i4⟩ := g4.cons
                obtain ⟨t4, r, rfl, j1, j2, j3, j4⟩ := i4.cons
                obtain ⟨cs, r, rfl, m1, m2⟩ := j4.app
                obtain ⟨t5, r, rfl, n1, n2, n3, n4⟩ := m2.cons
                rw [n4.nil] at hf ⊢
                have a2 : t0.text = [105, 102] := a2
                have c2 : t1.text = [123] := c2
                have g2 : t2.text = [125] := g2
                have i2 : t3.text = [101, 108, 115, 101] := i2
                have j2 : t4.text = [123] := j2
                have n2 : t5.text = [125] := n2
                simp only [List.length_cons, List.length_append, List.length_nil] at hf
                obtain ⟨f, rfl⟩ : ∃ g, f = g + 1 + 1 + 1 := ⟨f - 3, by omega⟩
                have el : (t0 :: (es ++ t1 :: (bs ++ t2 :: t3 :: t4 :: (cs ++ [t5])))) ++ rest = t0 :: (es ++ t1 :: (bs ++ t2 :: (t3 :: t4 :: (cs ++ t5 :: rest)))) := by simp
                rw [el, stmt_if (l := t0 :: (es ++ t1 :: (bs ++ t2 :: (t3 :: t4 :: (cs ++ t5 :: rest))))) a2, List.tail_cons, r1 es _ b1 (by show (bindOf t1.text).2 = 0; rw [c2]; rfl), Rs.bind_ok, block_ok hd2 c2 (r2 bs t2 _ (f + 1) e1 g2 (by omega)), Rs.bind_ok, else_yes (l := t3 :: t4 :: (cs ++ t5 :: rest)) i2, List.tail_cons, block_ok hd2 j2 (r3 cs t5 rest f m1 n2 (by omega)), Rs.bind_ok]
          · rw [if_neg h5] at hm
            by_cases h6 : k = 6
            · subst h6
              rw [if_pos rfl] at hm
              simp only [Bool.and_eq_true, decide_eq_true_eq] at hm
              obtain ⟨rfl, he, hb, hc⟩ := hm
              rw [List.isEmpty_iff] at hc
              subst hc
              have hd2 : d < 32 := by
                have := hw.1
                simp at this
                omega
              obtain ⟨ke, l1, r1, -⟩ := expr_both he hk.1
              obtain ⟨kb, l2, r2, -⟩ := bl_both (d + 1) (bl ++ [32, 32]) b hbl2 hb hw.2.1 hk.2.1
              refine ⟨(1, [119, 104, 105, 108, 101]), ke ++ (4, [123]) :: (kb ++ [(4, [125])]), by unfold Odd; decide, fun r kr k => ?_, fun ts rest f ha hf hel => ?_⟩
              · have := LexTo.wd (x := [119, 104, 105, 108, 101]) (by decide) (l1 _ _ (Sp.mk32 _) (LexTo.bl32 (LexTo.opn (l2 _ _ (LexTo.bls hbl k.shut)))))
                rw [stT, if_neg (by decide), if_neg (by decide), if_neg (by decide), if_neg (by decide), if_neg (by decide), if_pos rfl]
                simpa using this
              · obtain ⟨t0, r, rfl, a1, a2, a3, a4⟩ := ha.cons
                obtain ⟨es, r, rfl, b1, b2⟩ := a4.app
                obtain ⟨t1, r, rfl, c1, c2, c3, c4⟩ := b2.cons
                obtain ⟨bs, r, rfl, e1, e2⟩ := c4.app
                obtain ⟨t2, r, rfl, g1, g2, g3, g4⟩ := e2.cons
                rw [g4.nil] at hf ⊢
                have a2 : t0.text = [119, 104, 105, 108, 101] := a2
                have c2 : t1.text = [123] := c2
                have g2 : t2.text = [125] := g2
                simp only [List.length_cons, List.length_append, List.length_nil] at hf
                obtain ⟨f, rfl⟩ : ∃ g, f = g + 1 + 1 := ⟨f - 2, by omega⟩
                have el : (t0 :: (es ++ t1 :: (bs ++ [t2]))) ++ rest = t0 :: (es ++ t1 :: (bs ++ t2 :: rest)) := by simp
                rw [el, stmt_while (l := t0 :: (es ++ t1 :: (bs ++ t2 :: rest))) a2, List.tail_cons, r1 es _ b1 (by show (bindOf t1.text).2 = 0; rw [c2]; rfl), Rs.bind_ok, block_ok hd2 c2 (r2 bs t2 rest f e1 g2 (by omega)), Rs.bind_ok]
            · rw [if_neg h6] at hm
              by_cases h7 : k = 7
              · subst h7
                rw [if_pos rfl] at hm
                simp only [Bool.and_eq_true, decide_eq_true_eq] at hm
                obtain ⟨rfl, he, hb, hc⟩ := hm
                rw [List.isEmpty_iff] at hb hc
                rw [samX_eq] at he
                subst hb hc he
                refine simple_both (k0 := (1, [115, 107, 105, 112])) (ks := []) (by unfold Odd; decide) (by decide) (by decide) (fun r kr k => ?_) (fun ts u rest ha hu => ?_)
                · have := LexTo.word (x := [115, 107, 105, 112]) (by decide) (by decide) (by decide) (Sp.mk59 _) k.semi
                  rw [stT, if_neg (by decide), if_neg (by decide), if_neg (by decide), if_neg (by decide), if_neg (by decide), if_neg (by decide), if_pos rfl]
                  simpa using this
                · obtain ⟨t0, r, rfl, a1, a2, a3, a4⟩ := ha.cons
                  rw [a4.nil]
                  have a2 : t0.text = [115, 107, 105, 112] := a2
                  show simpleR (t0 :: u :: rest) = _
                  rw [simple_7 (l := t0 :: u :: rest) a2, List.tail_cons]
              · rw [if_neg h7] at hm
                cases hm
theorem bl_both : ∀ (d : Nat) (bl : List UInt8) (l : List St), (∀ c ∈ bl, c = 32) → mayB d l = true → wiB d l = true → stOks l → BlBoth d bl l
  | d, bl, [], hbl, hm, hw, hk => by
    refine ⟨[], fun r kr k => by simpa [blT] using k, fun ts u rest f ha hu hf => ?_, fun ts u rest ha hu => ?_⟩
    · rw [ha.nil]
      obtain ⟨f, rfl⟩ : ∃ g, f = g + 1 := ⟨f - 1, by omega⟩
      show stmtsR (f + 1) d (u :: rest) = _
      rw [stmtsR, if_pos (show (hdT (u :: rest)).text = [125] from hu)]
      rfl
    · rw [ha.nil]
      show u.text ≠ _ ∧ u.text ≠ _
      rw [hu]
      decide
  | d, bl, s :: r, hbl, hm, hw, hk => by
    unfold stOks at hk
    rw [mayB] at hm
    rw [wiB, Bool.and_eq_true] at hw
    simp only [Bool.and_eq_true, decide_eq_true_eq] at hm
    obtain ⟨hd, hs, hr⟩ := hm
    obtain ⟨k0, ks, h0, l1, r1⟩ := st_both d bl s hbl hs hw.1 hd hk.1
    obtain ⟨kr, l2, r2, n2⟩ := bl_both d bl r hbl hr hw.2 hk.2
    refine ⟨k0 :: (ks ++ kr), fun q kq k => ?_, fun ts u rest f ha hu hf => ?_, fun ts u rest ha hu => ?_⟩
    · have := LexTo.bls hbl (l1 _ _ (l2 q kq k))
      rw [blT]
      simpa using this
    · obtain ⟨xs, ys, rfl, a1, a2⟩ := Are.app (a := k0 :: ks) (by simpa using ha)
      obtain ⟨t, ts, rfl, c1, c2, c3, c4⟩ := a1.cons
      simp only [List.length_cons, List.length_append] at hf
      obtain ⟨f, rfl⟩ : ∃ g, f = g + 1 := ⟨f - 1, by omega⟩
      rw [List.append_assoc, stmtsR, if_neg (show ¬ (hdT (t :: ts ++ (ys ++ u :: rest))).text = [125] from c2 ▸ h0.1), r1 (t :: ts) _ f a1 (by simp; omega) (n2 ys u rest a2 hu).1, Rs.bind_ok, r2 ys u rest f a2 hu (by omega), Rs.bind_ok]
    · obtain ⟨t, ts, rfl, c1, c2, c3, c4⟩ := ha.cons
      show t.text ≠ _ ∧ t.text ≠ _
      rw [c2]
      exact h0.2
end

end Go.Proofs.YtjgggmjjikopeaaGreatDoor

/- A text so often. -/
namespace Go.Proofs.YtjgggmjjikopeaaGreatDoor
open Go.RowKit
set_option linter.unusedVariables false

/-- A text so often. -/
def manyS (s : List UInt8) : Nat → List UInt8
  | 0 => []
  | n + 1 => manyS s n ++ s
theorem manyS_len (s : List UInt8) : ∀ n, (manyS s n).length = n * s.length
  | 0 => by simp [manyS]
  | n + 1 => by rw [manyS, List.length_append, manyS_len s n, Nat.add_mul]; omega
theorem app_ba (x y : List UInt8) : (⟨x.toArray⟩ : ByteArray) ++ (⟨y.toArray⟩ : ByteArray) = ⟨(x ++ y).toArray⟩ := by
  apply ByteArray.ext
  simp
set_option maxRecDepth 100000 in
set_option maxHeartbeats 1600000 in
theorem many_any (s : List UInt8) (n : Nat) (hn : n ≤ 1000) (hs : s.length ≤ 1000) (w : World) :
    Calls Tryz.prog 17 #[.string ⟨s.toArray⟩, .int .i64 (n : Int)] w fun r w' => r = .returned (.string ⟨(manyS s n).toArray⟩) ∧ w' = w := by
  go_enter Tryz.func17, Tryz.ntmps17
  go_wp2_with fail
  go_loopw [5, 6] (fun v j wr => ∃ i : Nat, j = .int .i64 (i : Int) ∧ i ≤ n ∧ v = .string ⟨(manyS s i).toArray⟩ ∧ wr = w) (fun _ j _ => n - (intOf j).toNat)
  case atStart => exact ⟨0, rfl, Nat.zero_le _, rfl, rfl⟩
  case round =>
    obtain ⟨i, rfl, hi, rfl, rfl⟩ := hrel
    have hl := manyS_len s i
    have hb : i * s.length ≤ 1000 * 1000 := Nat.mul_le_mul (by omega) hs
    have he := app_ba (manyS s i) s
    by_cases hc : i < n
    · have hsz : ¬ (9223372036854775807 < (⟨(manyS s i).toArray⟩ : ByteArray).size + (⟨s.toArray⟩ : ByteArray).size) := by
        show ¬ (9223372036854775807 < (manyS s i).toArray.size + s.toArray.size)
        simp
        omega
      go_wp2_with fail
      go_roundw
      case rel => exact ⟨i + 1, by go_num, by omega, by rw [manyS, ← he], trivial⟩
      case measure => simp [intOf]; omega
    · have hin : i = n := by omega
      subst hin
      go_wp2_with fail
      go_ret
      exact ⟨rfl, rfl⟩
end Go.Proofs.YtjgggmjjikopeaaGreatDoor

/- tree.Print. -/
namespace Go.Proofs.YtjgggmjjikopeaaGreatDoor
open Go.RowKit
set_option linter.unusedVariables false

theorem RowS.up {B C c : Nat} {w : World} {a : Option Addr} {ks : List ST} (hBC : B ≤ C) (h : RowS B w a c ks) : RowS C w a c ks := by
  obtain ⟨h1, h2, h | ⟨g, o, ha, hg, hr⟩⟩ := h
  · exact ⟨h1, h2, .inl h⟩
  · exact ⟨h1, h2, .inr ⟨g, o, ha, by omega, hr.up hBC⟩⟩
theorem RowV.up {B C c : Nat} {w : World} {a : Option Addr} {ks : List VT} (hBC : B ≤ C) (h : RowV B w a c ks) : RowV C w a c ks := by
  obtain ⟨h1, h2, h | ⟨g, o, ha, hg, hr⟩⟩ := h
  · exact ⟨h1, h2, .inl h⟩
  · exact ⟨h1, h2, .inr ⟨g, o, ha, by omega, hr⟩⟩
theorem RowN.up {B C c : Nat} {w : World} {a : Option Addr} {ks : List ByteArray} (hBC : B ≤ C) (h : RowN B w a c ks) : RowN C w a c ks := by
  obtain ⟨h1, h2, h | ⟨g, o, ha, hg, hr⟩⟩ := h
  · exact ⟨h1, h2, .inl h⟩
  · exact ⟨h1, h2, .inr ⟨g, o, ha, by omega, hr⟩⟩
theorem TT.In.up {B C : Nat} {w : World} (hBC : B ≤ C) {t : TT} (h : t.In B w) : t.In C w := ⟨h.1.up hBC, h.2.up hBC⟩
theorem RowT.up {B C c : Nat} {w : World} {a : Option Addr} {ks : List TT} (hBC : B ≤ C) (h : RowT B w a c ks) : RowT C w a c ks := by
  obtain ⟨h1, h2, h | ⟨g, o, ha, hg, hr⟩⟩ := h
  · exact ⟨h1, h2, .inl h⟩
  · exact ⟨h1, h2, .inr ⟨g, o, ha, by omega, fun i v hv => ⟨(hr i v hv).1, (hr i v hv).2.up hBC⟩⟩⟩
theorem PT.In.up {B C : Nat} {w : World} (hBC : B ≤ C) {p : PT} (h : p.In B w) : p.In C w := ⟨h.1.up hBC, h.2.1.up hBC, h.2.2.up hBC⟩
theorem PT.In.old {B : Nat} {w w' : World} (hO : Old B w w') {p : PT} (h : p.In B w) : p.In B w' := ⟨h.1.old hO, h.2.1.old hO, h.2.2.old hO⟩

theorem i46 : (Tryz.prog.info? 26).map (·.size) = some 3 := by kernel_rfl

set_option maxRecDepth 100000 in
set_option maxHeartbeats 1600000 in
theorem print8_any (p : PT) (B : Nat) (w : World) (h : p.In B w) (hBw : B ≤ w.heap.size) (hT : Tab w) (h16 : gB ≤ w.heap.size) (hlen : (pgT p.pg).length ≤ 70368744177664) :
    Calls Tryz.prog 20 #[.agg p.cells.toArray] w fun r w' => r = .returned (.tuple #[.string ⟨(if mayP p.pg = true ∧ (pgT p.pg).length ≤ 16384 then pgT p.pg else []).toArray⟩, .int .i64 (if mayP p.pg = true then (if (pgT p.pg).length ≤ 16384 then 0 else 3) else 2)]) ∧ Below w.heap.size w w' := by
  have hM := fun w h hB hT h16 => mayProgram_any p B w h hB hT h16
  have hW := fun C g (hC : gB ≤ C) hm w => programT_any C g 16384 (by decide) hC p hm w []
  obtain ⟨M, hMM⟩ : ∃ M, Hid (M = mayP p.pg) := ⟨_, (rfl : _ = mayP p.pg)⟩
  rw [← hMM.out] at hM hW ⊢
  have HI : Hid (p.In B w ∧ Tab w) := ⟨h, hT⟩
  obtain ⟨X, hX⟩ : ∃ X, Hid (X = pgT p.pg) := ⟨_, (rfl : pgT p.pg = _)⟩
  rw [← hX.out] at hlen hW ⊢
  simp only [List.nil_append] at hW
  have HW : Hid (∀ C g, gB ≤ C → M = true → ∀ w, p.In C w → Txt C w g 16384 [] → C ≤ w.heap.size → Tab w → X.length ≤ 70368744177664 → Calls Tryz.prog 44 #[.pointer (some ⟨g, 0, none⟩), .agg p.cells.toArray] w fun r w' => r = .returned (.tuple #[]) ∧ Txt C w' g 16384 X ∧ Wr C g w w') := hW
  obtain ⟨cs, hcs⟩ : ∃ cs, Hid (cs = p.cells ∧ cs.length = 3) := ⟨_, (⟨rfl, rfl⟩ : p.cells = p.cells ∧ _)⟩
  rw [← hcs.out.1] at hM ⊢
  have hi46 : (Tryz.prog.info? 26).map (·.size) = some cs.length := by rw [hcs.out.2]; exact i46
  clear h hT hW
  obtain ⟨R, hR⟩ : ∃ R, Hid (R = (Value.tuple #[.string ⟨(if M = true ∧ X.length ≤ 16384 then X else []).toArray⟩, .int .i64 (if M = true then (if X.length ≤ 16384 then 0 else 3) else 2)])) := ⟨_, (rfl : _ = (Value.tuple #[.string ⟨(if M = true ∧ X.length ≤ 16384 then X else []).toArray⟩, .int .i64 (if M = true then (if X.length ≤ 16384 then 0 else 3) else 2)]))⟩
  rw [← hR.out]
  go_enter Tryz.func20, Tryz.ntmps20
  go_wp2_with (first
    | ((with_reducible show wpList _ _ _ _ _ _); refine wpList_box_at rfl 26 (.tmp 0) rfl cs rfl ?_; intro w1 hA1 hb1 hs1; clear hs1)
    | ((with_reducible show wpList _ _ _ _ _ _); refine wpList_load_at (P := Tryz.prog) rfl 26 (.tmp 1) rfl w.heap.size rfl 26 cs hA1 _ Tryz.underlying26 rfl hi46 ?_))
  refine (hM w1 (HI.out.1.old (Old.of_below hb1 hBw)) (by have := hb1.size; omega) (HI.out.2.below hb1 h16) (by have := hb1.size; omega)).mono ?_
  rintro r w2 ⟨rfl, hb2⟩
  have hA2 := hA1.below hb2
  have hw2 := hb1.trans (hb2.mono hb1.size)
  clear hM hA1 hb2 hb1
  cases M with
  | false =>
    go_wp2_with fail
    go_ret2
    exact ⟨by rw [hR.out]; rfl, hw2⟩
  | true =>
    go_wp2_with (first
      | ((with_reducible show wpList _ _ _ _ _ _); refine wpList_build_at (P := Tryz.prog) rfl 88 #[(1, .const (.int .i64 16384))] rfl [.pointer none, .slice none 0 0, .int .i64 16384] (by kernel_rfl) ?_)
      | ((with_reducible show wpList _ _ _ _ _ _); refine wpList_alloc_at rfl 88 rfl _ 3 z54 ?_; intro w3 hA3 hb3 hs3)
      | ((with_reducible show wpList _ _ _ _ _ _); refine wpList_store_at (P := Tryz.prog) rfl 88 (.tmp 4) (.tmp 8) rfl w2.heap.size [.pointer none, .slice none 0 0, .int .i64 16384] rfl rfl 88 _ hA3 i54 rfl (one54 _) ?_; intro w4 hA4 hb4 hs4; refine Hid.out ?_))
    refine hidU ?_
    have hB4 : Below w2.heap.size w2 w4 := hb4.below hb3 (Nat.le_refl _) (by omega)
    have hw4 := hw2.trans (hB4.mono hw2.size)
    have hA24 := hA2.below hB4
    have hBw2 : w.heap.size ≤ w2.heap.size := hw2.size
    have hE := HW.out w2.heap.size w2.heap.size (by omega) trivial w4 ((HI.out.1.old (Old.of_below hw4 hBw)).up (by omega)) (Txt.new (Nat.le_refl _) hA4) (by have := hB4.size; omega) (HI.out.2.below hw4 h16) hlen
    rw [← hcs.out.1] at hE
    clear HW hA3 hb3 hb4 hs3 hs4 hA2 hA4
    go_wp2_with (first
      | ((with_reducible show wpList _ _ _ _ _ _); refine wpList_load_at (P := Tryz.prog) rfl 26 (.tmp 1) rfl w.heap.size rfl 26 cs hA24 _ Tryz.underlying26 rfl hi46 ?_))
    refine hE.mono ?_
    rintro r w5 ⟨rfl, hT5, hW5⟩
    obtain ⟨bs, hbs, hbl, hraw⟩ := hT5
    have hs5 : w2.heap.size ≤ w5.heap.size := by have := hB4.size; have := hW5.size; omega
    have hS := string_any w2.heap.size w2.heap.size _ bs w5 hraw hs5
    have hN := len_any w2.heap.size w2.heap.size _ bs w5 hraw
    have hw5 : Below w.heap.size w w5 := hw4.trans ((hW5.below (Nat.le_refl _) (by have := hB4.size; omega)).mono hBw2)
    have hbl' : bs.length ≤ 70368744177664 := by omega
    clear hE hW5 hraw hA24 hw4 hB4
    go_wp2_with fail
    refine hN.mono ?_
    rintro r w6 ⟨rfl, rfl⟩
    clear hN
    by_cases hc : 16384 < bs.length
    · have hXl : ¬ X.length ≤ 16384 := by omega
      go_wp2_with fail
      go_ret2
      exact ⟨by rw [hR.out]; simp [hXl], hw5⟩
    · have hbX : bs = X := by
        rcases hbs with h | ⟨h, _⟩
        · exact h
        · omega
      have hXl : X.length ≤ 16384 := by rw [← hbX]; omega
      go_wp2_with fail
      refine hS.mono ?_
      rintro r w7 ⟨rfl, hb7⟩
      go_wp2_with fail
      go_ret2
      refine ⟨?_, hw5.trans (hb7.mono hBw2)⟩
      rw [hR.out]
      simp [hXl]

end Go.Proofs.YtjgggmjjikopeaaGreatDoor

/- How long texts can be. -/
namespace Go.Proofs.YtjgggmjjikopeaaGreatDoor
set_option linter.unusedVariables false

theorem textOf_len (h : Nat) : (textOf h).length ≤ 44 := by
  unfold textOf
  split
  · simp
  · split
    · simp
    · split
      · simp
      · split
        · exact Nat.le_trans (litOf_len _ _) (by decide)
        · split
          · rename_i k n _
            have := litOf_len k n
            simp only [List.length_cons]
            omega
          · simp only [List.length_cons, hex8_len]
            omega
theorem valTx_len (t b : Nat) (hb : b < 18446744073709551616) : (valTx t b).length ≤ 44 := by
  unfold valTx
  split
  · have := Lib.itoa_length_le (sgn b) (by unfold sgn; split <;> omega) (by unfold sgn; split <;> omega)
    omega
  · split
    · cases decide (b = 1) <;> decide
    · split
      · exact textOf_len _
      · simp
theorem sgT_len (op : Nat) : (sgT op).length ≤ 2 := by
  unfold sgT
  split <;> simp

mutual
theorem exT_len : ∀ e : Ex, exOk e → (exT e).length ≤ 60 * exW e
  | .mk op t b nm [], hk => by
    unfold exOk at hk
    rw [exT, exW, exWs]
    have := valTx_len t b hk.1
    split
    · omega
    · split
      · omega
      · simp
  | .mk op t b nm [x], hk => by
    unfold exOk exOks at hk
    have h1 := exT_len x hk.2.1
    have := valTx_len t b hk.1
    rw [exT, exW, exWs, exWs]
    split
    · omega
    · split
      · omega
      · split
        · simp only [List.length_cons]; omega
        · split
          · simp only [List.length_cons]; omega
          · split
            · simp only [List.length_cons, List.length_append, List.length_nil]; omega
            · split
              · simp only [List.length_cons, List.length_append, List.length_nil]; omega
              · simp
  | .mk op t b nm (x :: y :: r), hk => by
    unfold exOk exOks exOks at hk
    have h1 := exT_len x hk.2.1
    have h2 := exT_len y hk.2.2.1
    have h3 := sgT_len op
    have := valTx_len t b hk.1
    rw [exT, exW, exWs, exWs]
    split
    · omega
    · split
      · omega
      · simp only [List.length_cons, List.length_append, List.length_nil]
        omega
end

theorem arA (bl n : Nat) (hn : 1 ≤ n) : 100 * n + 4 * bl ≤ (100 + 4 * bl + 8 * n) * n := by
  have h1 : 4 * bl ≤ 4 * bl * n := Nat.le_mul_of_pos_right _ hn
  simp only [Nat.add_mul]
  omega
theorem arB (bl x nb nc m n : Nat) (hn : n = m + nb + nc) (hm : 1 + x ≤ m) : 20 + 60 * x + 3 * bl + ((100 + 4 * (bl + 2) + 8 * nb) * nb + (100 + 4 * (bl + 2) + 8 * nc) * nc) ≤ (100 + 4 * bl + 8 * n) * n := by
  subst hn
  have h1 : bl ≤ bl * m := Nat.le_mul_of_pos_right _ (by omega)
  have h2 : nb ≤ m * nb := Nat.le_mul_of_pos_left _ (by omega)
  have h3 : nc ≤ m * nc := Nat.le_mul_of_pos_left _ (by omega)
  have e1 : nb * m = m * nb := Nat.mul_comm _ _
  have e2 : nc * m = m * nc := Nat.mul_comm _ _
  have e3 : nc * nb = nb * nc := Nat.mul_comm _ _
  simp only [Nat.add_mul, Nat.mul_add, Nat.mul_assoc]
  omega
theorem arC (bl n1 n2 : Nat) : (100 + 4 * bl + 8 * n1) * n1 + (100 + 4 * bl + 8 * n2) * n2 ≤ (100 + 4 * bl + 8 * (n1 + n2)) * (n1 + n2) := by
  have e3 : n2 * n1 = n1 * n2 := Nat.mul_comm _ _
  simp only [Nat.add_mul, Nat.mul_add, Nat.mul_assoc]
  omega

mutual
theorem stT_len : ∀ (bl : List UInt8) (s : St), stOk s → (stT bl s).length + bl.length + 1 ≤ (100 + 4 * bl.length + 8 * stW s) * stW s
  | bl, .mk k nm e b c, hk => by
    unfold stOk at hk
    have he := exT_len e hk.1
    have hb := blT_len (bl ++ [32, 32]) b hk.2.1
    have hc := blT_len (bl ++ [32, 32]) c hk.2.2
    have hbl : (bl ++ [32, 32]).length = bl.length + 2 := by simp
    rw [hbl] at hb hc
    have hA := arA bl.length (stW (.mk k nm e b c)) (by rw [stW]; omega)
    have hB := arB bl.length (exW e) (stWs b) (stWs c) (nm.length + 1 + exW e) (stW (.mk k nm e b c)) (by rw [stW]) (by omega)
    have hn : stW (.mk k nm e b c) = nm.length + 1 + exW e + stWs b + stWs c := by rw [stW]
    generalize (100 + 4 * bl.length + 8 * stW (.mk k nm e b c)) * stW (.mk k nm e b c) = R at hA hB ⊢
    rw [stT]
    split
    · simp only [List.length_append, List.length_cons, List.length_nil]; omega
    · split
      · simp only [List.length_append, List.length_cons, List.length_nil]; omega
      · split
        · simp only [List.length_append, List.length_cons, List.length_nil]; omega
        · split
          · simp only [List.length_append, List.length_cons, List.length_nil]; omega
          · split
            · cases c.isEmpty with
              | true => simp only [List.length_append, List.length_cons, List.length_nil, if_true]; omega
              | false => simp only [List.length_append, List.length_cons, List.length_nil, Bool.false_eq_true, if_false]; omega
            · split
              · simp only [List.length_append, List.length_cons, List.length_nil]; omega
              · split
                · simp only [List.length_cons, List.length_nil]; omega
                · simp only [List.length_nil]; omega
theorem blT_len : ∀ (bl : List UInt8) (l : List St), stOks l → (blT bl l).length ≤ (100 + 4 * bl.length + 8 * stWs l) * stWs l
  | bl, [], _ => by simp [blT]
  | bl, s :: r, hk => by
    unfold stOks at hk
    have h1 := stT_len bl s hk.1
    have h2 := blT_len bl r hk.2
    have h3 := arC bl.length (stW s) (stWs r)
    rw [blT, stWs]
    simp only [List.length_append, List.length_cons, List.length_nil]
    omega
end

theorem sum_len {α : Type} (f : α → List UInt8) (g : α → Nat) (C : Nat) : ∀ l : List α, (∀ a ∈ l, (f a).length ≤ C * g a) → ((l.map f).flatten).length ≤ C * (l.map g).sum
  | [], _ => by simp
  | a :: r, h => by
    have h1 := h a List.mem_cons_self
    have h2 := sum_len f g C r fun x hx => h x (List.mem_cons_of_mem _ hx)
    simp only [List.map_cons, List.flatten_cons, List.length_append, List.sum_cons, Nat.mul_add]
    omega
theorem le_sum {α : Type} (g : α → Nat) : ∀ (l : List α) (a : α), a ∈ l → g a ≤ (l.map g).sum
  | [], a, h => by cases h
  | x :: r, a, h => by
    simp only [List.map_cons, List.sum_cons]
    rcases List.mem_cons.1 h with rfl | h
    · omega
    · have := le_sum g r a h; omega

theorem vrT_len (wd : List UInt8) (hw : wd.length ≤ 8) (v : Vr) (hk : vrOk v) : (vrT wd v).length ≤ 100 * vrW v := by
  have := valTx_len v.t v.b hk
  have h2 : (tyT v.t).length ≤ 4 := by unfold tyT; split <;> (try split) <;> simp
  unfold vrT vrW
  simp only [List.length_append, List.length_cons, List.length_nil]
  omega

theorem thT_len (t : Th) (hk : thOk t) (hw : thW t ≤ 1048576) : (thT t).length ≤ 8389000 * thW t := by
  have h1 := sum_len (vrT [32, 32, 108, 111, 99, 97, 108, 32]) vrW 100 t.locals (fun v hv => vrT_len _ (by decide) v (hk.1 v hv))
  have h2 := blT_len [32, 32] t.body hk.2
  have h3 : (100 + 4 * ([32, 32] : List UInt8).length + 8 * stWs t.body) * stWs t.body ≤ 8388716 * stWs t.body := Nat.mul_le_mul_right _ (by unfold thW at hw; simp only [List.length_cons, List.length_nil]; omega)
  unfold thT thW vrsT
  unfold thW at hw
  simp only [List.length_append, List.length_cons, List.length_nil]
  omega

theorem pgT_len (p : Pg) (hk : pgOk p) (hw : pgW p ≤ 1048576) : (pgT p).length ≤ 70368744177664 := by
  have h1 := sum_len (vrT [115, 104, 97, 114, 101, 100, 32]) vrW 100 p.shared (fun v hv => vrT_len _ (by decide) v (hk.1 v hv))
  have h2 := sum_len mxT (fun m => m.length + 1) 100 p.mutexes (fun m _ => by unfold mxT; simp only [List.length_append, List.length_cons, List.length_nil]; omega)
  have h3 := sum_len thT thW 8389000 p.threads (fun t ht => thT_len t (hk.2 t ht) (by have := le_sum thW p.threads t ht; unfold pgW at hw; omega))
  unfold pgT vrsT mxsT thsT
  unfold pgW at hw
  simp only [List.length_append]
  omega

end Go.Proofs.YtjgggmjjikopeaaGreatDoor

/- What is printed is read: variables, threads, programs. -/
namespace Go.Proofs.YtjgggmjjikopeaaGreatDoor
set_option linter.unusedVariables false

theorem ty_words {t : Nat} (h : t = 1 ∨ t = 2 ∨ t = 3) : tyT t ∈ words ∧ ∀ (u : Tk) (r : List Tk), u.text = tyT t → typeR (u :: r) = .ok t r := by
  rcases h with rfl | rfl | rfl <;> (refine ⟨by decide, fun u r hu => ?_⟩; have hu : (hdT (u :: r)).text = _ := hu; unfold typeR; rw [hu]; rfl)
theorem vr_both {v : Vr} (hm : mayV v = true) (hk : vrOk v) : ∃ ks, (∀ r kr, LexTo r kr → LexTo (v.nm ++ 32 :: (tyT v.t ++ 32 :: 61 :: 32 :: (valTx v.t v.b ++ 59 :: 10 :: r))) (ks ++ kr)) ∧ ∀ ts rest, Are ts ks → variableR (ts ++ rest) = .ok v rest := by
  unfold mayV at hm
  rw [Bool.and_eq_true] at hm
  obtain ⟨hv, hn⟩ := hm
  obtain ⟨kv, l1, r1⟩ := val_one hv hk
  obtain ⟨ht1, ht2⟩ := ty_words (valOk_type hv)
  refine ⟨(1, v.nm) :: (1, tyT v.t) :: (4, [61]) :: (kv ++ [(4, [59])]), fun r kr k => ?_, fun ts rest ha => ?_⟩
  · have := LexTo.nm hn (LexTo.wd ht1 (LexTo.is (l1 _ _ (Sp.mk59 _) k.semi)))
    simpa using this
  · obtain ⟨t0, r, rfl, a1, a2, a3, a4⟩ := ha.cons
    obtain ⟨t1, r, rfl, b1, b2, b3, b4⟩ := a4.cons
    obtain ⟨t2, r, rfl, c1, c2, c3, c4⟩ := b4.cons
    obtain ⟨vs, r, rfl, d1, d2⟩ := c4.app
    obtain ⟨t3, r, rfl, e1, e2, e3, e4⟩ := d2.cons
    rw [e4.nil]
    have c2 : t2.text = [61] := c2
    have el : (t0 :: t1 :: t2 :: (vs ++ [t3])) ++ rest = t0 :: t1 :: t2 :: (vs ++ t3 :: rest) := by simp
    rw [el]
    unfold variableR
    rw [name_ok a2 hn, Rs.bind_ok, ht2 t1 _ b2, Rs.bind_ok]
    unfold initR
    rw [if_pos (show (hdT (t2 :: (vs ++ t3 :: rest))).text = [61] from c2), List.tail_cons, r1 vs _ d1, Rs.bind_ok, must_ok e2, Rs.bind_ok]

theorem locals_both : ∀ (vs : List Vr), (∀ v ∈ vs, mayV v = true ∧ vrOk v) → ∃ ks, (∀ r kr, LexTo r kr → LexTo (vrsT [32, 32, 108, 111, 99, 97, 108, 32] vs ++ r) (ks ++ kr)) ∧
    ∀ ts rest f, Are ts ks → ts.length + 1 ≤ f → (hdT rest).text ≠ [108, 111, 99, 97, 108] → localsR f (ts ++ rest) = .ok vs rest
  | [], _ => ⟨[], fun r kr k => by simpa [vrsT] using k, fun ts rest f ha hf hr => by
      rw [ha.nil]
      obtain ⟨f, rfl⟩ : ∃ g, f = g + 1 := ⟨f - 1, by omega⟩
      show localsR (f + 1) rest = _
      rw [localsR, if_neg hr]⟩
  | v :: vs, h => by
    obtain ⟨kv, l1, r1⟩ := vr_both (h v List.mem_cons_self).1 (h v List.mem_cons_self).2
    obtain ⟨ks, l2, r2⟩ := locals_both vs fun u hu => h u (List.mem_cons_of_mem _ hu)
    refine ⟨(1, [108, 111, 99, 97, 108]) :: (kv ++ ks), fun r kr k => ?_, fun ts rest f ha hf hr => ?_⟩
    · have := LexTo.bl32 (LexTo.bl32 (LexTo.wd (x := [108, 111, 99, 97, 108]) (by decide) (l1 _ _ (l2 r kr k))))
      simpa [vrsT, vrT] using this
    · obtain ⟨t0, r, rfl, a1, a2, a3, a4⟩ := ha.cons
      obtain ⟨xs, ys, rfl, b1, b2⟩ := a4.app
      simp only [List.length_cons, List.length_append] at hf
      obtain ⟨f, rfl⟩ : ∃ g, f = g + 1 := ⟨f - 1, by omega⟩
      have el : (t0 :: (xs ++ ys)) ++ rest = t0 :: (xs ++ (ys ++ rest)) := by simp
      rw [el, localsR, if_pos (show (hdT (t0 :: (xs ++ (ys ++ rest)))).text = _ from a2), List.tail_cons, r1 xs _ b1, Rs.bind_ok, r2 ys rest f b2 (by omega) hr, Rs.bind_ok]

theorem th_both {t : Th} (hm : mayT t = true) (hw : wiB 0 t.body = true) (hk : thOk t) : ∃ ks, (∀ r kr, LexTo r kr → LexTo (thT t ++ r) ((1, [116, 104, 114, 101, 97, 100]) :: (ks ++ kr))) ∧ ∀ ts rest, Are ts ks → threadR (ts ++ rest) = .ok t rest := by
  unfold mayT at hm
  simp only [Bool.and_eq_true] at hm
  obtain ⟨hn, hl, hb⟩ := hm
  obtain ⟨kl, l1, r1⟩ := locals_both t.locals fun v hv => ⟨List.all_eq_true.1 hl v hv, hk.1 v hv⟩
  obtain ⟨kb, l2, r2, n2⟩ := bl_both 0 [32, 32] t.body (by simp) hb hw hk.2
  refine ⟨(1, t.nm) :: (4, [123]) :: (kl ++ (kb ++ [(4, [125])])), fun r kr k => ?_, fun ts rest ha => ?_⟩
  · have := LexTo.wd (x := [116, 104, 114, 101, 97, 100]) (by decide) (LexTo.nm hn (LexTo.opn (l1 _ _ (l2 _ _ k.shut))))
    unfold thT
    simpa using this
  · obtain ⟨t0, r, rfl, a1, a2, a3, a4⟩ := ha.cons
    obtain ⟨t1, r, rfl, b1, b2, b3, b4⟩ := a4.cons
    obtain ⟨ls, r, rfl, c1, c2⟩ := b4.app
    obtain ⟨bs, r, rfl, d1, d2⟩ := c2.app
    obtain ⟨t2, r, rfl, e1, e2, e3, e4⟩ := d2.cons
    rw [e4.nil]
    have el : (t0 :: t1 :: (ls ++ (bs ++ [t2]))) ++ rest = t0 :: t1 :: (ls ++ (bs ++ t2 :: rest)) := by simp
    rw [el]
    unfold threadR
    rw [name_ok a2 hn, Rs.bind_ok, must_ok b2, Rs.bind_ok, r1 ls _ _ c1 (by simp) (n2 bs t2 rest d1 e2).2, Rs.bind_ok, r2 bs t2 rest _ d1 e2 (by simp; omega), Rs.bind_ok]

theorem ths_both : ∀ (l : List Th), (∀ t ∈ l, mayT t = true ∧ wiB 0 t.body = true ∧ thOk t) → ∃ ks, LexTo (thsT l) ks ∧ ∀ ts u f, Are ts ks → u.text = [] → ts.length + 1 ≤ f → threadsR f (ts ++ [u]) = .ok l [u] ∧ (hdT (ts ++ [u])).text ≠ [115, 104, 97, 114, 101, 100] ∧ (hdT (ts ++ [u])).text ≠ [109, 117, 116, 101, 120]
  | [], _ => ⟨[], .nil, fun ts u f ha hu hf => by
      rw [ha.nil]
      obtain ⟨f, rfl⟩ : ∃ g, f = g + 1 := ⟨f - 1, by omega⟩
      refine ⟨?_, ?_⟩
      · show threadsR (f + 1) [u] = _
        rw [threadsR, if_neg (show ¬ (hdT [u]).text = _ by show ¬ u.text = _; rw [hu]; decide)]
      · show u.text ≠ _ ∧ u.text ≠ _
        rw [hu]
        decide⟩
  | t :: l, h => by
    obtain ⟨h1, h2, h3⟩ := h t List.mem_cons_self
    obtain ⟨kt, l1, r1⟩ := th_both h1 h2 h3
    obtain ⟨ks, l2, r2⟩ := ths_both l fun u hu => h u (List.mem_cons_of_mem _ hu)
    refine ⟨(1, [116, 104, 114, 101, 97, 100]) :: (kt ++ ks), ?_, fun ts u f ha hu hf => ?_⟩
    · have := l1 _ _ l2
      unfold thsT at this ⊢
      simpa using this
    · obtain ⟨t0, r, rfl, a1, a2, a3, a4⟩ := ha.cons
      obtain ⟨xs, ys, rfl, b1, b2⟩ := a4.app
      simp only [List.length_cons, List.length_append] at hf
      obtain ⟨f, rfl⟩ : ∃ g, f = g + 1 := ⟨f - 1, by omega⟩
      have a2 : t0.text = [116, 104, 114, 101, 97, 100] := a2
      have el : (t0 :: (xs ++ ys)) ++ [u] = t0 :: (xs ++ (ys ++ [u])) := by simp
      rw [el]
      refine ⟨?_, ?_⟩
      · rw [threadsR, if_pos (show (hdT (t0 :: (xs ++ (ys ++ [u])))).text = _ from a2), List.tail_cons, r1 xs _ b1, Rs.bind_ok, (r2 ys u f b2 hu (by omega)).1, Rs.bind_ok]
      · show t0.text ≠ _ ∧ t0.text ≠ _
        rw [a2]
        decide

theorem mxs_both : ∀ (l : List (List UInt8)), (∀ m ∈ l, isNm m = true) → ∃ ks, (∀ r kr, LexTo r kr → LexTo (mxsT l ++ r) (ks ++ kr)) ∧
    ∀ ts rest f, Are ts ks → ts.length + 1 ≤ f → (hdT rest).text ≠ [115, 104, 97, 114, 101, 100] → (hdT rest).text ≠ [109, 117, 116, 101, 120] → declsR f (ts ++ rest) = .ok ([], l) rest
  | [], _ => ⟨[], fun r kr k => by simpa [mxsT] using k, fun ts rest f ha hf h1 h2 => by
      rw [ha.nil]
      obtain ⟨f, rfl⟩ : ∃ g, f = g + 1 := ⟨f - 1, by omega⟩
      show declsR (f + 1) rest = _
      rw [declsR, if_neg h1, if_neg h2]⟩
  | m :: l, h => by
    have hm := h m List.mem_cons_self
    obtain ⟨ks, l2, r2⟩ := mxs_both l fun u hu => h u (List.mem_cons_of_mem _ hu)
    refine ⟨(1, [109, 117, 116, 101, 120]) :: (1, m) :: (4, [59]) :: ks, fun r kr k => ?_, fun ts rest f ha hf h1 h2 => ?_⟩
    · have := LexTo.wd (x := [109, 117, 116, 101, 120]) (by decide) (LexTo.name hm (Sp.mk59 _) (LexTo.semi (l2 r kr k)))
      unfold mxsT mxT at this ⊢
      simpa using this
    · obtain ⟨t0, r, rfl, a1, a2, a3, a4⟩ := ha.cons
      obtain ⟨t1, r, rfl, b1, b2, b3, b4⟩ := a4.cons
      obtain ⟨t2, ys, rfl, c1, c2, c3, c4⟩ := b4.cons
      simp only [List.length_cons] at hf
      obtain ⟨f, rfl⟩ : ∃ g, f = g + 1 := ⟨f - 1, by omega⟩
      have a2 : t0.text = [109, 117, 116, 101, 120] := a2
      show declsR (f + 1) (t0 :: t1 :: t2 :: (ys ++ rest)) = _
      rw [declsR, if_neg (show ¬ (hdT (t0 :: t1 :: t2 :: (ys ++ rest))).text = _ by show ¬ t0.text = _; rw [a2]; decide), if_pos (show (hdT (t0 :: t1 :: t2 :: (ys ++ rest))).text = _ from a2), List.tail_cons, name_ok b2 hm, Rs.bind_ok, must_ok c2, Rs.bind_ok, r2 ys rest f c4 (by omega) h1 h2, Rs.bind_ok]

theorem vrs_both : ∀ (vs : List Vr), (∀ v ∈ vs, mayV v = true ∧ vrOk v) → ∃ ks, (∀ r kr, LexTo r kr → LexTo (vrsT [115, 104, 97, 114, 101, 100, 32] vs ++ r) (ks ++ kr)) ∧
    ∀ ts rest n x r2, Are ts ks → (∀ f, n ≤ f → declsR f rest = .ok x r2) → ∀ f, n + ts.length ≤ f → declsR f (ts ++ rest) = .ok (vs ++ x.1, x.2) r2
  | [], _ => ⟨[], fun r kr k => by simpa [vrsT] using k, fun ts rest n x r2 ha h f hf => by
      rw [ha.nil] at hf ⊢
      exact h f hf⟩
  | v :: vs, h => by
    obtain ⟨kv, l1, r1⟩ := vr_both (h v List.mem_cons_self).1 (h v List.mem_cons_self).2
    obtain ⟨ks, l2, r2⟩ := vrs_both vs fun u hu => h u (List.mem_cons_of_mem _ hu)
    refine ⟨(1, [115, 104, 97, 114, 101, 100]) :: (kv ++ ks), fun r kr k => ?_, fun ts rest n x r3 ha hr f hf => ?_⟩
    · have := LexTo.wd (x := [115, 104, 97, 114, 101, 100]) (by decide) (l1 _ _ (l2 r kr k))
      simpa [vrsT, vrT] using this
    · obtain ⟨t0, r, rfl, a1, a2, a3, a4⟩ := ha.cons
      obtain ⟨xs, ys, rfl, b1, b2⟩ := a4.app
      simp only [List.length_cons, List.length_append] at hf
      obtain ⟨f, rfl⟩ : ∃ g, f = g + 1 := ⟨f - 1, by omega⟩
      have el : (t0 :: (xs ++ ys)) ++ rest = t0 :: (xs ++ (ys ++ rest)) := by simp
      rw [el, declsR, if_pos (show (hdT (t0 :: (xs ++ (ys ++ rest)))).text = _ from a2), List.tail_cons, r1 xs _ b1, Rs.bind_ok, r2 ys rest n x r3 b2 hr f (by omega), Rs.bind_ok]
      rfl

/-- What is printed of a program is read as it. -/
theorem pg_both {p : Pg} (hm : mayP p = true) (hw : ∀ t ∈ p.threads, wiB 0 t.body = true) (hk : pgOk p) : ∃ ks, LexTo (pgT p) ks ∧ ∀ ts u, Are ts ks → u.text = [] → programR (ts ++ [u]) = .ok p [u] := by
  unfold mayP at hm
  simp only [Bool.and_eq_true] at hm
  obtain ⟨hs, hx, ht⟩ := hm
  obtain ⟨k1, l1, r1⟩ := vrs_both p.shared fun v hv => ⟨List.all_eq_true.1 hs v hv, hk.1 v hv⟩
  obtain ⟨k2, l2, r2⟩ := mxs_both p.mutexes fun m hm => List.all_eq_true.1 hx m hm
  obtain ⟨k3, l3, r3⟩ := ths_both p.threads fun t h => ⟨List.all_eq_true.1 ht t h, hw t h, hk.2 t h⟩
  refine ⟨k1 ++ (k2 ++ k3), l1 _ _ (l2 _ _ l3), fun ts u ha hu => ?_⟩
  obtain ⟨xs, r, rfl, a1, a2⟩ := ha.app
  obtain ⟨ys, zs, rfl, b1, b2⟩ := a2.app
  obtain ⟨-, c1, c2⟩ := r3 zs u _ b2 hu (Nat.le_refl _)
  have el : (xs ++ (ys ++ zs)) ++ [u] = xs ++ (ys ++ (zs ++ [u])) := by simp
  rw [el]
  unfold programR
  rw [r1 xs (ys ++ (zs ++ [u])) (ys.length + 1) ([], p.mutexes) (zs ++ [u]) a1 (fun f hf => r2 ys _ f b1 hf c1 c2) _ (by simp; omega), Rs.bind_ok, (r3 zs u _ b2 hu (by simp)).1, Rs.bind_ok]
  simp

theorem back_math {p : Pg} (hm : mayP p = true) (hw : ∀ t ∈ p.threads, wiB 0 t.body = true) (hk : pgOk p) (hl : (pgT p).length ≤ 16384) : pgO (pgT p) (programR (toksOf (pgT p))) = (p, 0, 0) := by
  obtain ⟨ks, h1, h2⟩ := pg_both hm hw hk
  obtain ⟨h3, h4⟩ := lexS_to h1 hl
  unfold pgO
  rw [if_pos h3]
  unfold toksOf
  rw [h2 _ _ h4 rfl]
  rfl

end Go.Proofs.YtjgggmjjikopeaaGreatDoor

/- What is read may be printed: tokens, values, expressions. -/
namespace Go.Proofs.YtjgggmjjikopeaaGreatDoor
set_option linter.unusedVariables false

mutual
/-- Whether an expression may be printed, however high. -/
def mayX : Ex → Bool
  | .mk op t b nm ks => decide ((ks.length : Int) = opnds op) && ((if op = 1 then litOk t b && decide (nm = []) else if op = 2 then isNm nm && decide (t = 0 ∧ b = 0) else decide (nm = []) && decide (t = 0 ∧ b = 0)) && mayXs ks)
def mayXs : List Ex → Bool
  | [] => true
  | e :: r => mayX e && mayXs r
end
theorem all_may (h : Nat) (ih : ∀ e, mayE h e = (decide (htX e ≤ h) && mayX e)) : ∀ ks : List Ex, ks.all (mayE h) = (decide (htL ks ≤ h) && mayXs ks)
  | [] => by simp [htL, mayXs]
  | e :: r => by
    rw [List.all_cons, ih e, all_may h ih r, htL, mayXs]
    by_cases h1 : htX e ≤ h
    · by_cases h2 : htL r ≤ h
      · rw [decide_eq_true h1, decide_eq_true h2, decide_eq_true (p := max (htX e) (htL r) ≤ h) (by omega)]
        simp
      · rw [decide_eq_true h1, decide_eq_false h2, decide_eq_false (p := max (htX e) (htL r) ≤ h) (by omega)]
        simp
    · rw [decide_eq_false h1, decide_eq_false (p := max (htX e) (htL r) ≤ h) (by omega)]
      simp
theorem mayE_eq : ∀ (h : Nat) (e : Ex), mayE h e = (decide (htX e ≤ h) && mayX e)
  | 0, .mk op t b nm ks => by
    rw [mayE, htX, decide_eq_false (by omega)]
    rfl
  | h + 1, .mk op t b nm ks => by
    have ih := mayE_eq h
    rw [mayE, htX, mayX, all_may h ih ks]
    by_cases hl : (ks.length : Int) = opnds op
    · rw [decide_eq_true hl, Bool.true_and, Bool.true_and]
      by_cases h1 : op = 1
      · subst h1
        have hk : ks = [] := List.length_eq_zero_iff.1 (by have : opnds 1 = 0 := rfl; omega)
        subst hk
        simp [htL, mayXs]
      by_cases h2 : op = 2
      · subst h2
        have hk : ks = [] := List.length_eq_zero_iff.1 (by have : opnds 2 = 0 := rfl; omega)
        subst hk
        simp [htL, mayXs]
      · rw [if_neg h1, if_neg h2, if_neg h1, if_neg h2]
        by_cases h3 : htL ks ≤ h
        · rw [decide_eq_true h3, decide_eq_true (p := htL ks + 1 ≤ h + 1) (by omega), Bool.true_and, Bool.true_and, Bool.and_comm]
        · rw [decide_eq_false h3, decide_eq_false (p := htL ks + 1 ≤ h + 1) (by omega)]
          simp
    · rw [decide_eq_false hl]
      simp

/-- A token as the lexer tells it. -/
def TkFit (t : Tk) : Prop := t.bits = valB t.kind t.text ∧ ((t.kind = 1 ∧ t.text.length ≤ 24 ∧ isLet (t.text.headD 0).toNat = true ∧ allAl t.text = true) ∨ (t.kind = 2 ∧ GoodDec t.text) ∨ (t.kind = 3 ∧ IsLit t.text) ∨ (t.kind = 4 ∧ t.text ∈ signs))
theorem al_take : ∀ r : List UInt8, allAl (r.take (alN r)) = true
  | [] => rfl
  | c :: r => by
    rw [alN]
    split
    · next h =>
      have := al_take r
      unfold allAl at this ⊢
      rw [List.take_succ_cons, List.all_cons, h, this]
      rfl
    · rfl
theorem endOf_fit {s : List UInt8} (p : Nat) (hs : s ≠ []) (h0 : errOf (endOf s).1 (s.take (endOf s).2) = 0) : TkFit (tkOf (endOf s).1 (s.take (endOf s).2) p) := by
  refine ⟨rfl, ?_⟩
  show ((endOf s).1 = 1 ∧ (s.take (endOf s).2).length ≤ 24 ∧ isLet ((s.take (endOf s).2).headD 0).toNat = true ∧ allAl (s.take (endOf s).2) = true) ∨ ((endOf s).1 = 2 ∧ GoodDec (s.take (endOf s).2)) ∨ ((endOf s).1 = 3 ∧ IsLit (s.take (endOf s).2)) ∨ ((endOf s).1 = 4 ∧ (s.take (endOf s).2) ∈ signs)
  cases s with
  | nil => exact absurd rfl hs
  | cons c r =>
    by_cases h1 : isLet c.toNat = true
    · have e : endOf (c :: r) = (1, alN r + 1) := by rw [endOf, if_pos h1]
      rw [e] at h0 ⊢
      left
      dsimp only at h0 ⊢
      rw [List.take_succ_cons] at h0 ⊢
      refine ⟨rfl, ?_, h1, ?_⟩
      · unfold errOf at h0
        rw [if_pos rfl] at h0
        by_cases h : 24 < (c :: r.take (alN r)).length
        · rw [if_pos h] at h0; cases h0
        · omega
      · have := al_take r
        unfold allAl at this ⊢
        rw [List.all_cons, h1, this]
        rfl
    · by_cases h2 : isDig c.toNat = true
      · have e : endOf (c :: r) = ((nmN r).1, (nmN r).2 + 1) := by rw [endOf, if_neg h1, if_pos h2]
        rw [e] at h0 ⊢
        dsimp only at h0 ⊢
        unfold errOf at h0
        rcases nmN_kind r with h | h
        · rw [h] at h0 ⊢
          rw [if_neg (by decide), if_pos rfl] at h0
          refine .inr (.inl ⟨rfl, ?_⟩)
          by_cases hg : GoodDec (List.take ((nmN r).2 + 1) (c :: r))
          · exact hg
          · rw [if_neg hg] at h0; cases h0
        · rw [h] at h0 ⊢
          rw [if_neg (by decide), if_neg (by decide), if_pos rfl] at h0
          refine .inr (.inr (.inl ⟨rfl, ?_⟩))
          by_cases hg : IsLit (List.take ((nmN r).2 + 1) (c :: r))
          · exact hg
          · rw [if_neg hg] at h0; cases h0
      · have e : endOf (c :: r) = (4, sgN c r + 1) := by rw [endOf, if_neg h1, if_neg h2]
        rw [e] at h0 ⊢
        dsimp only at h0 ⊢
        unfold errOf at h0
        rw [if_neg (by decide), if_neg (by decide), if_neg (by decide)] at h0
        refine .inr (.inr (.inr ⟨rfl, ?_⟩))
        cases hg : isSg (List.take (sgN c r + 1) (c :: r)) with
        | true => exact of_decide_eq_true hg
        | false => rw [hg] at h0; cases h0
theorem lexA_fit (l : List UInt8) (f : Nat) : ∀ p, (∀ t ∈ (lexA l f p).toks, TkFit t) ∧ ((lexA l f p).err = 0 → (lexA l f p).place = 0) := by
  induction f with
  | zero => intro p; exact ⟨fun t ht => by simp [lexA] at ht, fun _ => rfl⟩
  | succ f ih =>
    intro p
    rw [lexA]
    dsimp only
    split
    · exact ⟨fun t ht => by simp at ht, fun _ => rfl⟩
    · next hp =>
      split
      · next he => exact ⟨fun t ht => by simp at ht, fun h => absurd h he⟩
      · next he =>
        split
        · exact ⟨fun t ht => by simp at ht, fun h => by cases h⟩
        · have hne : l.drop p ≠ [] := fun h => hp (by have := congrArg List.length h; rw [List.length_drop] at this; simp at this; omega)
          unfold Out.ahead
          split
          · refine ⟨fun t ht => ?_, fun _ => rfl⟩
            rcases List.mem_append.1 ht with h | h
            · rw [List.mem_singleton.1 h]
              exact endOf_fit p hne (by simpa using he)
            · exact (ih _).1 t h
          · next hr => exact ⟨fun t ht => (ih _).1 t ht, fun h => absurd h hr⟩
theorem lexS_fit (l : List UInt8) : (∀ t ∈ (lexS l).toks, TkFit t) ∧ ((lexS l).err = 0 → (lexS l).place = 0) := by
  unfold lexS
  split
  · exact ⟨fun t ht => by simp at ht, fun h => by cases h⟩
  · exact lexA_fit l _ _

/-- A token of the lexer, or the one behind them all. -/
def TkF (t : Tk) : Prop := TkFit t ∨ (t.kind = 0 ∧ t.text = [])
theorem hdT_F {l : List Tk} (h : ∀ t ∈ l, TkF t) : TkF (hdT l) := by
  cases l with
  | nil => exact .inr ⟨rfl, rfl⟩
  | cons t r => exact h t List.mem_cons_self
theorem tail_F {l : List Tk} (h : ∀ t ∈ l, TkF t) : ∀ t ∈ l.tail, TkF t := fun t ht => h t (List.mem_of_mem_tail ht)
theorem word_kind {t : Tk} (h : TkF t) (hl : isLet (t.text.headD 0).toNat = true) : t.kind = 1 := by
  rcases h with ⟨-, h | ⟨-, h⟩ | ⟨-, h⟩ | ⟨-, h⟩⟩ | ⟨-, h⟩
  · exact h.1
  · obtain ⟨c, q, e, hc⟩ := good_head h
    rw [e] at hl
    have := let_dig hc
    rw [show isLet ((c :: q).headD 0).toNat = isLet c.toNat from rfl, this] at hl
    cases hl
  · obtain ⟨c, q, e, hc⟩ := lit_head h
    rw [e] at hl
    have := let_dig hc
    rw [show isLet ((c :: q).headD 0).toNat = isLet c.toNat from rfl, this] at hl
    cases hl
  · rw [(sign_heads _ h).2.2.1] at hl
    cases hl
  · rw [h] at hl
    exact absurd hl (by decide)

theorem pr_nan : pr NAN 1 6 = none := by decide +kernel
theorem pr_inf : pr 9218868437227405312 1 6 = none := by decide +kernel
theorem pr_minf : pr 18442240474082181120 1 6 = none := by decide +kernel
theorem lit_pre {k n : Nat} (h1 : 1 ≤ k) (h6 : k ≤ 6) (hn : n < 1000000000000000) : Lib.hasPrefix (litOf k n) [35] = false ∧ Lib.hasPrefix (litOf k n) [45] = false := by
  obtain ⟨c, q, e, hc⟩ := lit_head (litOf_lit k n h1 h6 hn).1
  rw [e]
  have e1 : (35 : UInt8) ≠ c := by rintro rfl; exact absurd hc (by decide)
  have e2 : (45 : UInt8) ≠ c := by rintro rfl; exact absurd hc (by decide)
  simp [Lib.hasPrefix, List.isPrefixOf, e1, e2]
theorem pr_pre {x k n : Nat} (h : pr x 1 6 = some (k, n)) : Lib.hasPrefix (litOf k n) [35] = false ∧ Lib.hasPrefix (litOf k n) [45] = false := by
  obtain ⟨p1, p2, p3⟩ := pr_sound 6 1 k n x h
  exact lit_pre p1 (by omega) (digits_sound p3).2
theorem real_fit {b : Nat} (hb : b < 18446744073709551616) (hh : home b = b) (hp : ∃ j n, pr b 1 6 = some (j, n)) : litOk 3 b = true ∧ valOk 3 (fneg b) = true := by
  obtain ⟨j, n, hp⟩ := hp
  have n1 : b ≠ NAN := by rintro rfl; rw [pr_nan] at hp; cases hp
  have n2 : b ≠ 9218868437227405312 := by rintro rfl; rw [pr_inf] at hp; cases hp
  have n3 : b ≠ 18442240474082181120 := by rintro rfl; rw [pr_minf] at hp; cases hp
  have ht : textOf b = litOf j n := by unfold textOf; rw [if_neg n1, if_neg n2, if_neg n3, hp]
  have hq := pr_pre hp
  have hf := home_fneg b hb
  constructor
  · have e : valTx 3 b = textOf (home b) := rfl
    unfold litOk
    rw [e, hh, ht, hq.2]
    simp [valOk, hh, ht, hq.1]
  · have : Lib.hasPrefix (textOf (fneg b)) [35] = false := by
      unfold textOf
      split
      · decide
      · split
        · decide
        · split
          · decide
          · cases h : pr (fneg b) 1 6 with
            | some x => exact (pr_pre (k := x.1) (n := x.2) h).1
            | none =>
              dsimp only
              rw [fneg_fneg hb, hh, hp]
              simp [Lib.hasPrefix, List.isPrefixOf]
    simp [valOk, hf, this]

theorem lit_fit {t : Tk} {v : Nat × Nat} (h : TkF t) (hl : litTk t = some v) : litOk v.1 v.2 = true ∧ v.2 < 18446744073709551616 ∧ (signlessT t = false → valOk v.1 (negV v).2 = true ∧ (negV v).1 = v.1 ∧ (negV v).2 < 18446744073709551616) := by
  have nos : ∀ x : List UInt8, t.text = x → isLet (x.headD 0).toNat = true → x ≠ [105, 110, 102] → signlessT t = false → False := by
    rintro x rfl h1 h2 h3
    simp [signlessT, word_kind h h1, h2] at h3
  unfold litTk at hl
  by_cases c1 : t.text = [116, 114, 117, 101]
  · rw [if_pos c1] at hl
    cases hl
    exact ⟨by decide, by decide, fun hs => (nos _ c1 (by decide) (by decide) hs).elim⟩
  rw [if_neg c1] at hl
  by_cases c2 : t.text = [102, 97, 108, 115, 101]
  · rw [if_pos c2] at hl
    cases hl
    exact ⟨by decide, by decide, fun hs => (nos _ c2 (by decide) (by decide) hs).elim⟩
  rw [if_neg c2] at hl
  by_cases c3 : t.text = [110, 97, 110]
  · rw [if_pos c3] at hl
    cases hl
    exact ⟨by decide +kernel, by decide, fun hs => (nos _ c3 (by decide) (by decide) hs).elim⟩
  rw [if_neg c3] at hl
  by_cases c4 : t.text = [105, 110, 102]
  · rw [if_pos c4] at hl
    cases hl
    exact ⟨by decide +kernel, by decide, fun _ => ⟨by decide +kernel, by decide, by decide⟩⟩
  rw [if_neg c4] at hl
  by_cases c5 : t.kind = 2 ∨ t.kind = 3
  · rw [if_pos c5] at hl
    cases hl
    rcases h with ⟨hb, h | ⟨hk, h⟩ | ⟨hk, h⟩ | h⟩ | h
    · omega
    · rw [hk] at hb ⊢
      have hb : t.bits = decVal t.text := hb
      have hu := h.2.2.2
      rw [← hb] at hu
      show litOk 1 t.bits = true ∧ t.bits < _ ∧ (_ → valOk 1 ((18446744073709551616 - t.bits) % 18446744073709551616) = true ∧ 1 = 1 ∧ (18446744073709551616 - t.bits) % 18446744073709551616 < _)
      refine ⟨?_, by omega, fun _ => ⟨?_, rfl, Nat.mod_lt _ (by decide)⟩⟩
      · have e : valTx 1 t.bits = Lib.itoa (sgn t.bits) := rfl
        have e2 : Lib.itoa (sgn t.bits) = Lib.decDigits t.bits := by
          have : sgn t.bits = (t.bits : Int) := by unfold sgn; rw [if_pos (by omega)]
          unfold Lib.itoa
          rw [this, if_neg (by omega)]
          rfl
        unfold litOk
        rw [e, e2]
        have hne : t.bits ≠ 9223372036854775808 := by omega
        cases hd : Lib.decDigits t.bits with
        | nil => exact absurd hd (dd_ne _)
        | cons c q =>
          have hc := dd_dig t.bits c (by rw [hd]; exact List.mem_cons_self)
          have e3 : (45 : UInt8) ≠ c := by rintro rfl; revert hc; decide
          simp [valOk, hne, Lib.hasPrefix, List.isPrefixOf, e3]
      · have : (18446744073709551616 - t.bits) % 18446744073709551616 ≠ 9223372036854775808 := by omega
        simp only [valOk, if_true]
        exact decide_eq_true this
    · rw [hk] at hb ⊢
      have hb : t.bits = quo (litNum t.text) (10 ^ (behindOf t.text).length) := hb
      have hn := (lit_self h).2.1
      have hd := digits_complete (litNum t.text) (behindOf t.text).length h.1 h.2.1 hn
      rw [← hb] at hd
      have hlt : t.bits < 18446744073709551616 := by rw [hb]; exact quo_lt _ _
      have hh : home t.bits = t.bits := by rw [hb]; exact quo_home _ _
      obtain ⟨j', n', hp, -⟩ := pr_complete 6 1 _ _ t.bits h.1 (by have := h.2.1; omega) hd
      obtain ⟨a, b⟩ := real_fit hlt hh ⟨j', n', hp⟩
      show litOk 3 t.bits = true ∧ t.bits < _ ∧ (_ → valOk 3 (fneg t.bits) = true ∧ 3 = 3 ∧ fneg t.bits < _)
      exact ⟨a, hlt, fun _ => ⟨b, rfl, fneg_lt hlt⟩⟩
    · omega
    · omega
  · rw [if_neg c5] at hl
    cases hl

/-- What is left is tokens, and shorter; what was read is as it should; an error is one. -/
def Rs.Fine {α : Type} (R : Rs α) (n : Nat) (P : α → Prop) : Prop :=
  match R with
  | .ok v r => r.length < n ∧ (∀ t ∈ r, TkF t) ∧ P v
  | .bad e _ => e ≠ 0
theorem Rs.Fine.bind {α β : Type} {R : Rs α} {f : α → List Tk → Rs β} {n m : Nat} {P : α → Prop} {Q : β → Prop} (h : R.Fine n P) (hf : ∀ v r, r.length < n → (∀ t ∈ r, TkF t) → P v → (f v r).Fine m Q) : (R.bind f).Fine m Q := by
  cases R with
  | ok v r => exact hf v r h.1 h.2.1 h.2.2
  | bad e p => exact h
theorem Rs.Fine.mono {α : Type} {R : Rs α} {n m : Nat} {P Q : α → Prop} (h : R.Fine n P) (hn : n ≤ m) (hP : ∀ v, P v → Q v) : R.Fine m Q := by
  cases R with
  | ok v r => exact ⟨Nat.lt_of_lt_of_le h.1 hn, h.2.1, hP v h.2.2⟩
  | bad e p => exact h
theorem must_fine {x : List UInt8} {l : List Tk} (hx : x ≠ []) (h : ∀ t ∈ l, TkF t) : (mustR x l).Fine l.length (fun _ => True) := by
  unfold mustR
  split
  · next e => exact ⟨tail_lt (by rw [e]; exact hx), tail_F h, trivial⟩
  · exact (by decide : (4 : Nat) ≠ 0)
theorem name_fine {l : List Tk} (h : ∀ t ∈ l, TkF t) : (nameR l).Fine l.length (fun x => isNm x = true) := by
  unfold nameR
  split
  · next e => exact ⟨tail_lt (nm_ne e), tail_F h, e⟩
  · exact (by decide : (4 : Nat) ≠ 0)

/-- What is known of an expression that was read. -/
def PX (e : Ex) : Prop := mayX e = true ∧ exOk e ∧ htX e ≤ 32
theorem PX.may {e : Ex} (h : PX e) : mayE 32 e = true ∧ exOk e := by
  rw [mayE_eq, h.1, decide_eq_true h.2.2]
  exact ⟨rfl, h.2.1⟩
theorem leaf_fine {l : List Tk} (h : ∀ t ∈ l, TkF t) : (leafR l).Fine l.length PX := by
  unfold leafR
  cases hl : litTk (hdT l) with
  | some v =>
    obtain ⟨a, b, -⟩ := lit_fit (hdT_F h) hl
    refine ⟨?_, tail_F h, ?_, ⟨b, trivial⟩, by rw [htX, htL]; decide⟩
    · cases l with
      | nil => simp [litTk, hdT] at hl
      | cons t r => simp
    · simp [mayX, mayXs, opnds, a]
  | none =>
    dsimp only
    split
    · next e =>
      refine ⟨tail_lt (nm_ne e), tail_F h, ?_, ⟨by decide, trivial⟩, by rw [htX, htL]; decide⟩
      simp [mayX, mayXs, opnds, e]
    · exact (by decide : (4 : Nat) ≠ 0)
theorem node_one {p op : Nat} {x : Ex} {r : List Tk} (h : ∀ t ∈ r, TkF t) (hx : PX x) (ho : 16 ≤ op ∧ op < 20) : (nodeR p op [x] r).Fine (r.length + 1) PX := by
  unfold nodeR
  split
  · exact (by decide : (160 : Nat) ≠ 0)
  · next hh =>
    refine ⟨Nat.lt_succ_self _, h, ?_, ⟨by decide, hx.2.1, trivial⟩, by omega⟩
    have o : opnds op = 1 := by unfold opnds; rw [if_neg (by omega), if_pos ho]
    simp [mayX, mayXs, o, hx.1, show ¬ op = 1 by omega, show ¬ op = 2 by omega]
theorem node_two {p op : Nat} {x y : Ex} {r : List Tk} (h : ∀ t ∈ r, TkF t) (hx : PX x) (hy : PX y) (ho : 3 ≤ op ∧ op < 16) : (nodeR p op [x, y] r).Fine (r.length + 1) PX := by
  unfold nodeR
  split
  · exact (by decide : (160 : Nat) ≠ 0)
  · next hh =>
    refine ⟨Nat.lt_succ_self _, h, ?_, ⟨by decide, hx.2.1, hy.2.1, trivial⟩, by omega⟩
    have o : opnds op = 2 := by unfold opnds; rw [if_neg (by omega), if_neg (by omega), if_pos ho]
    simp [mayX, mayXs, o, hx.1, hy.1, show ¬ op = 1 by omega, show ¬ op = 2 by omega]
theorem bind_op {x : List UInt8} (h : 1 ≤ (bindOf x).2) : 3 ≤ (bindOf x).1 ∧ (bindOf x).1 < 16 := by
  have go : ∀ (c : Prop) [Decidable c] (a b : Nat × Nat), (3 ≤ a.1 ∧ a.1 < 16) → (1 ≤ b.2 → 3 ≤ b.1 ∧ b.1 < 16) → (1 ≤ (if c then a else b).2 → 3 ≤ (if c then a else b).1 ∧ (if c then a else b).1 < 16) := fun c _ a b h1 h2 => by
    by_cases h : c
    · rw [if_pos h]; exact fun _ => h1
    · rw [if_neg h]; exact h2
  revert h
  unfold bindOf
  repeat' (first | exact fun h => absurd h (by decide) | exact (by decide) | apply go)
theorem open_op {x : List UInt8} (h : openOf x ≠ 0) : 16 ≤ openOf x ∧ openOf x < 20 := by
  unfold openOf at h ⊢
  split
  · decide
  · split
    · decide
    · split
      · decide
      · split
        · decide
        · rename_i h1 h2 h3 h4
          rw [if_neg h1, if_neg h2, if_neg h3, if_neg h4] at h
          exact absurd rfl h

theorem expr_fine (f : Nat) :
    (∀ n d l r, (∀ t ∈ l, TkF t) → 1 ≤ n → rowF f n d l = some r → r.Fine l.length PX) ∧
    (∀ n m d x l r, (∀ t ∈ l, TkF t) → 1 ≤ n → PX x → loopF f n m d x l = some r → r.Fine (l.length + 1) PX) ∧
    (∀ d l r, (∀ t ∈ l, TkF t) → operF f d l = some r → r.Fine l.length PX) ∧
    (∀ d l r, (∀ t ∈ l, TkF t) → brkF f d l = some r → r.Fine l.length PX) := by
  induction f with
  | zero => exact ⟨fun n d l r _ _ h => by simp [rowF] at h, fun n m d x l r _ _ _ h => by simp [loopF] at h, fun d l r _ h => by simp [operF] at h, fun d l r _ h => by simp [brkF] at h⟩
  | succ f ih =>
    obtain ⟨ih1, ih2, ih3, ih4⟩ := ih
    refine ⟨fun n d l r hl hn h => ?_, fun n m d x l r hl hn hx h => ?_, fun d l r hl h => ?_, fun d l r hl h => ?_⟩
    · rw [rowF] at h
      cases hc : operF f d l with
      | none => rw [hc] at h; cases h
      | some y =>
        rw [hc] at h
        have hy := ih3 d l y hl hc
        cases y with
        | bad e p => cases h; exact hy
        | ok y r' => exact (ih2 _ _ _ _ _ _ hy.2.1 hn hy.2.2 h).mono hy.1 fun _ h => h
    · rw [loopF] at h
      split at h
      · cases h; exact ⟨Nat.lt_succ_self _, hl, hx⟩
      · next hc0 =>
        have ht := tail_lt (bind_nil (l := l) (by omega))
        cases hc : rowF f ((bindOf (hdT l).text).2 + 1) d l.tail with
        | none => rw [hc] at h; cases h
        | some y =>
          rw [hc] at h
          have hy := ih1 _ _ _ _ (tail_F hl) (by omega) hc
          cases y with
          | bad e p => cases h; exact hy
          | ok y r' =>
            dsimp only at h
            have hnd := node_two (p := (hdT l).place) hy.2.1 hx hy.2.2 (bind_op (x := (hdT l).text) (by omega))
            have hy1 : r'.length < l.tail.length := hy.1
            cases hn2 : nodeR (hdT l).place (bindOf (hdT l).text).1 [x, y] r' with
            | bad e p => rw [hn2] at h hnd; cases h; exact hnd
            | ok z r'' =>
              rw [hn2] at h hnd
              exact (ih2 _ _ _ _ _ _ hnd.2.1 hn hnd.2.2 h).mono (by have : r''.length < r'.length + 1 := hnd.1; omega) fun _ h => h
    · rw [operF] at h
      split at h
      · cases h; exact leaf_fine hl
      · next c1 =>
        have ht := tail_lt (open_nil c1)
        split at h
        · cases h; exact (by decide : (160 : Nat) ≠ 0)
        · split at h
          · next c3 =>
            cases hc : operF f (d + 1) l.tail with
            | none => rw [hc] at h; cases h
            | some y =>
              rw [hc] at h
              have hy := ih3 _ _ _ (tail_F hl) hc
              cases y with
              | bad e p => cases h; exact hy
              | ok y r' =>
                cases h
                exact (node_one hy.2.1 hy.2.2 (open_op (by omega))).mono (by have : r'.length < l.tail.length := hy.1; omega) fun _ h => h
          · split at h
            · exact ih4 _ _ _ hl h
            · next c4 =>
              cases hc : brkF f d l.tail with
              | none => rw [hc] at h; cases h
              | some y =>
                rw [hc] at h
                have hy := ih4 _ _ _ (tail_F hl) hc
                cases y with
                | bad e p => cases h; exact hy
                | ok y r' =>
                  cases h
                  exact (node_one hy.2.1 hy.2.2 (open_op c4)).mono (by have : r'.length < l.tail.length := hy.1; omega) fun _ h => h
    · rw [brkF] at h
      have hm := must_fine (x := [40]) (by decide) hl
      cases h1 : mustR [40] l with
      | bad e p => rw [h1] at h hm; cases h; exact hm
      | ok u r' =>
        rw [h1] at h hm
        dsimp only at h
        cases hc : rowF f 1 (d + 1) r' with
        | none => rw [hc] at h; cases h
        | some y =>
          rw [hc] at h
          have hy := ih1 _ _ _ _ hm.2.1 (Nat.le_refl _) hc
          cases y with
          | bad e p => cases h; exact hy
          | ok y r2 =>
            dsimp only at h
            have hm2 := must_fine (x := [41]) (by decide) hy.2.1
            have b1 : r'.length < l.length := hm.1
            have b2 : r2.length < r'.length := hy.1
            cases h2 : mustR [41] r2 with
            | bad e p => rw [h2] at h hm2; cases h; exact hm2
            | ok u r3 =>
              rw [h2] at h hm2
              cases h
              have b3 : r3.length < r2.length := hm2.1
              exact ⟨by omega, hm2.2.1, hy.2.2⟩
theorem exprR_fine {l : List Tk} (h : ∀ t ∈ l, TkF t) : (exprR l).Fine l.length PX := (expr_fine _).1 _ _ _ _ h (Nat.le_refl _) (exprR_row l)

end Go.Proofs.YtjgggmjjikopeaaGreatDoor

/- What is read may be printed: variables, statements, programs. -/
namespace Go.Proofs.YtjgggmjjikopeaaGreatDoor
set_option linter.unusedVariables false

theorem four : (4 : Nat) ≠ 0 := by decide
theorem type_fine {l : List Tk} (h : ∀ t ∈ l, TkF t) : (typeR l).Fine l.length (fun t => t = 1 ∨ t = 2 ∨ t = 3) := by
  unfold typeR
  split
  · next e => exact ⟨tail_lt (by rw [e]; decide), tail_F h, .inl rfl⟩
  · split
    · next e => exact ⟨tail_lt (by rw [e]; decide), tail_F h, .inr (.inl rfl)⟩
    · split
      · next e => exact ⟨tail_lt (by rw [e]; decide), tail_F h, .inr (.inr rfl)⟩
      · exact four
/-- A value of a type. -/
def PV (t : Nat) (v : Nat × Nat) : Prop := v.1 = t ∧ valOk v.1 v.2 = true ∧ v.2 < 18446744073709551616
theorem valM_fine {m : Bool} {t p : Nat} {l : List Tk} (h : ∀ t ∈ l, TkF t) : (valueM m t p l).Fine l.length (PV t) := by
  unfold valueM
  cases hl : litTk (hdT l) with
  | none => exact four
  | some v =>
    obtain ⟨a, b, c⟩ := lit_fit (hdT_F h) hl
    have hlt : l.tail.length < l.length := by
      cases l with
      | nil => simp [litTk, hdT] at hl
      | cons t r => simp
    unfold litOk at a
    rw [Bool.and_eq_true] at a
    dsimp only
    split
    · exact four
    · next hs =>
      split
      · next ht =>
        refine ⟨hlt, tail_F h, ?_⟩
        cases m with
        | false => exact ⟨ht, a.1, b⟩
        | true =>
          obtain ⟨c1, c2, c3⟩ := c (by simpa using hs)
          refine ⟨c2.trans ht, ?_, c3⟩
          show valOk (negV v).1 (negV v).2 = true
          rw [c2]
          exact c1
      · exact (by decide : (9 : Nat) ≠ 0)
theorem val_fine {t : Nat} {l : List Tk} (h : ∀ t ∈ l, TkF t) : (valueR t l).Fine l.length (PV t) := by
  unfold valueR
  split
  · exact (valM_fine (tail_F h)).mono (tail_le l) fun _ h => h
  · exact valM_fine h
theorem ok0 : valOk 3 0 = true := by decide +kernel
theorem init_fine {t : Nat} {l : List Tk} (ht : t = 1 ∨ t = 2 ∨ t = 3) (h : ∀ t ∈ l, TkF t) : (initR t l).Fine (l.length + 1) (PV t) := by
  unfold initR
  split
  · exact (val_fine (tail_F h)).mono (by have := tail_le l; omega) fun _ h => h
  · refine ⟨Nat.lt_succ_self _, h, rfl, ?_, by show 0 < _; decide⟩
    rcases ht with rfl | rfl | rfl
    · decide
    · decide
    · exact ok0
theorem var_fine {l : List Tk} (h : ∀ t ∈ l, TkF t) : (variableR l).Fine l.length (fun v => mayV v = true ∧ vrOk v) := by
  refine (name_fine h).bind fun x r h1 f1 hx => (type_fine f1).bind fun t r2 h2 f2 ht => (init_fine ht f2).bind fun v r3 h3 f3 hv => (must_fine (by decide) f3).bind fun _ r4 h4 f4 _ => ⟨by omega, f4, ?_, hv.2.2⟩
  unfold mayV
  rw [Bool.and_eq_true]
  exact ⟨hv.2.1, hx⟩

/-- What is known of statements that were read. -/
def PS (d : Nat) (s : St) : Prop := mayS d s = true ∧ wiS d s = true ∧ stOk s
def PB (d : Nat) (l : List St) : Prop := mayB d l = true ∧ wiB d l = true ∧ stOks l
theorem noE_ok : exOk noE := ⟨by decide, trivial⟩
theorem PB.nil (d : Nat) : PB d [] := ⟨rfl, rfl, trivial⟩
theorem samE : samX noE noE = true := (samX_eq _ _).2 rfl
theorem PS.lock {d : Nat} {x : List UInt8} {k : Int} (hk : k = 2 ∨ k = 3) (hx : isNm x = true) : PS d (.mk k x noE [] []) := by
  refine ⟨?_, ?_, noE_ok, trivial, trivial⟩
  · rcases hk with rfl | rfl <;> simp [mayS, hx, samE]
  · rcases hk with rfl | rfl <;> simp [wiS, wiB]
theorem simple_fine {d : Nat} {l : List Tk} (h : ∀ t ∈ l, TkF t) : (simpleR l).Fine l.length (PS d) := by
  have ht := tail_le l
  unfold simpleR
  split
  · exact (name_fine (tail_F h)).bind fun x r h1 f1 hx => ⟨by omega, f1, PS.lock (.inl rfl) hx⟩
  · split
    · exact (name_fine (tail_F h)).bind fun x r h1 f1 hx => ⟨by omega, f1, PS.lock (.inr rfl) hx⟩
    · split
      · refine (exprR_fine (tail_F h)).bind fun e r h1 f1 he => ⟨by omega, f1, ?_, by simp [wiS, wiB], he.2.1, trivial, trivial⟩
        simp [mayS, he.may.1]
      · split
        · next e => exact ⟨tail_lt (by rw [e]; decide), tail_F h, by simp [mayS, samE], by simp [wiS, wiB], noE_ok, trivial, trivial⟩
        · refine (name_fine h).bind fun x r h1 f1 hx => (must_fine (by decide) f1).bind fun _ r2 h2 f2 _ => (exprR_fine f2).bind fun e r3 h3 f3 he => ⟨by omega, f3, ?_, by simp [wiS, wiB], he.2.1, trivial, trivial⟩
          simp [mayS, hx, he.may.1]

theorem stmt_fine (f : Nat) : ∀ (d : Nat) (l : List Tk), d ≤ 32 → (∀ t ∈ l, TkF t) →
    (4 * l.length + 3 ≤ f → (stmtR f d l).Fine l.length (PS d)) ∧
    (4 * l.length + 1 ≤ f → (elseR f d l).Fine (l.length + 1) (fun b => b = [] ∨ d < 32 ∧ PB (d + 1) b)) ∧
    (4 * l.length + 1 ≤ f → (blockR f d l).Fine l.length (fun b => d < 32 ∧ PB (d + 1) b)) ∧
    (4 * l.length + 4 ≤ f → (stmtsR f d l).Fine l.length (PB d)) := by
  induction f with
  | zero => exact fun d l _ _ => ⟨fun h => by omega, fun h => by omega, fun h => by omega, fun h => by omega⟩
  | succ f ih =>
    intro d l hd h
    have ht := tail_le l
    refine ⟨fun hf => ?_, fun hf => ?_, fun hf => ?_, fun hf => ?_⟩
    · rw [stmtR]
      split
      · next e =>
        have hlt := tail_lt (l := l) (by rw [e]; decide)
        refine (exprR_fine (tail_F h)).bind fun e r h1 f1 he => ((ih d r hd f1).2.2.1 (by omega)).bind fun b r2 h2 f2 hb => ((ih d r2 hd f2).2.1 (by omega)).bind fun c r3 h3 f3 hc => ⟨by omega, f3, ?_⟩
        have hc : PB (d + 1) c := by
          rcases hc with rfl | hc
          · exact PB.nil _
          · exact hc.2
        refine ⟨?_, ?_, he.2.1, hb.2.2.2, hc.2.2⟩
        · simp [mayS, he.may.1, hb.2.1, hc.1]
        · simp [wiS, hb.2.2.1, hc.2.1]
          omega
      · split
        · next e =>
          have hlt := tail_lt (l := l) (by rw [e]; decide)
          refine (exprR_fine (tail_F h)).bind fun e r h1 f1 he => ((ih d r hd f1).2.2.1 (by omega)).bind fun b r2 h2 f2 hb => ⟨by omega, f2, ?_, ?_, he.2.1, hb.2.2.2, trivial⟩
          · simp [mayS, he.may.1, hb.2.1]
          · simp [wiS, wiB, hb.2.2.1]
            omega
        · exact (simple_fine h).bind fun s r h1 f1 hs => (must_fine (by decide) f1).bind fun _ r2 h2 f2 _ => ⟨by omega, f2, hs⟩
    · rw [elseR]
      split
      · next e =>
        have hlt := tail_lt (l := l) (by rw [e]; decide)
        exact ((ih d l.tail hd (tail_F h)).2.2.1 (by omega)).mono (by omega) fun _ h => .inr h
      · exact ⟨Nat.lt_succ_self _, h, .inl rfl⟩
    · rw [blockR]
      refine (must_fine (by decide) h).bind fun _ r h1 f1 _ => ?_
      split
      · exact (by decide : (160 : Nat) ≠ 0)
      · exact ((ih (d + 1) r (by omega) f1).2.2.2 (by omega)).mono (by omega) fun _ h => ⟨by omega, h⟩
    · rw [stmtsR]
      split
      · next e => exact ⟨tail_lt (by rw [e]; decide), tail_F h, PB.nil _⟩
      · refine ((ih d l hd h).1 (by omega)).bind fun s r h1 f1 hs => ((ih d r hd f1).2.2.2 (by omega)).bind fun ss r2 h2 f2 hss => ⟨by omega, f2, ?_, ?_, hs.2.2, hss.2.2⟩
        · rw [mayB, hs.1, hss.1, decide_eq_true hd]; rfl
        · rw [wiB, hs.2.1, hss.2.1]; rfl

theorem locals_fine (f : Nat) : ∀ l : List Tk, (∀ t ∈ l, TkF t) → l.length + 1 ≤ f → (localsR f l).Fine (l.length + 1) (fun vs => ∀ v ∈ vs, mayV v = true ∧ vrOk v) := by
  induction f with
  | zero => intro l h hf; omega
  | succ f ih =>
    intro l h hf
    have ht := tail_le l
    rw [localsR]
    split
    · next e =>
      have hlt := tail_lt (l := l) (by rw [e]; decide)
      refine (var_fine (tail_F h)).bind fun v r h1 f1 hv => (ih r f1 (by omega)).bind fun vs r2 h2 f2 hvs => ⟨by omega, f2, fun u hu => ?_⟩
      rcases List.mem_cons.1 hu with rfl | hu
      · exact hv
      · exact hvs u hu
    · exact ⟨Nat.lt_succ_self _, h, fun v hv => by cases hv⟩
/-- What is known of a thread that was read. -/
def PTh (t : Th) : Prop := mayT t = true ∧ wiB 0 t.body = true ∧ thOk t
theorem thread_fine {l : List Tk} (h : ∀ t ∈ l, TkF t) : (threadR l).Fine l.length PTh := by
  refine (name_fine h).bind fun x r h1 f1 hx => (must_fine (by decide) f1).bind fun _ r2 h2 f2 _ => (locals_fine _ r2 f2 (Nat.le_refl _)).bind fun vs r3 h3 f3 hvs => ((stmt_fine _ 0 r3 (by decide) f3).2.2.2 (Nat.le_refl _)).bind fun b r4 h4 f4 hb => ⟨by omega, f4, ?_, hb.2.1, fun v hv => (hvs v hv).2, hb.2.2⟩
  unfold mayT
  simp only [Bool.and_eq_true]
  exact ⟨hx, List.all_eq_true.2 fun v hv => (hvs v hv).1, hb.1⟩
theorem decls_fine (f : Nat) : ∀ l : List Tk, (∀ t ∈ l, TkF t) → l.length + 1 ≤ f → (declsR f l).Fine (l.length + 1) (fun x => (∀ v ∈ x.1, mayV v = true ∧ vrOk v) ∧ ∀ m ∈ x.2, isNm m = true) := by
  induction f with
  | zero => intro l h hf; omega
  | succ f ih =>
    intro l h hf
    have ht := tail_le l
    rw [declsR]
    split
    · next e =>
      have hlt := tail_lt (l := l) (by rw [e]; decide)
      refine (var_fine (tail_F h)).bind fun v r h1 f1 hv => (ih r f1 (by omega)).bind fun x r2 h2 f2 hx => ⟨by omega, f2, fun u hu => ?_, hx.2⟩
      rcases List.mem_cons.1 hu with rfl | hu
      · exact hv
      · exact hx.1 u hu
    · split
      · next e =>
        have hlt := tail_lt (l := l) (by rw [e]; decide)
        refine (name_fine (tail_F h)).bind fun m r h1 f1 hm => (must_fine (by decide) f1).bind fun _ r2 h2 f2 _ => (ih r2 f2 (by omega)).bind fun x r3 h3 f3 hx => ⟨by omega, f3, hx.1, fun u hu => ?_⟩
        rcases List.mem_cons.1 hu with rfl | hu
        · exact hm
        · exact hx.2 u hu
      · exact ⟨Nat.lt_succ_self _, h, (fun v hv => by cases hv), (fun v hv => by cases hv)⟩
theorem threads_fine (f : Nat) : ∀ l : List Tk, (∀ t ∈ l, TkF t) → l.length + 1 ≤ f → (threadsR f l).Fine (l.length + 1) (fun ts => ∀ t ∈ ts, PTh t) := by
  induction f with
  | zero => intro l h hf; omega
  | succ f ih =>
    intro l h hf
    have ht := tail_le l
    rw [threadsR]
    split
    · next e =>
      have hlt := tail_lt (l := l) (by rw [e]; decide)
      refine (thread_fine (tail_F h)).bind fun v r h1 f1 hv => (ih r f1 (by omega)).bind fun vs r2 h2 f2 hvs => ⟨by omega, f2, fun u hu => ?_⟩
      rcases List.mem_cons.1 hu with rfl | hu
      · exact hv
      · exact hvs u hu
    · exact ⟨Nat.lt_succ_self _, h, fun v hv => by cases hv⟩
/-- What is known of a program that was read. -/
def PPg (p : Pg) : Prop := mayP p = true ∧ (∀ t ∈ p.threads, wiB 0 t.body = true) ∧ pgOk p
theorem program_fine {l : List Tk} (h : ∀ t ∈ l, TkF t) : (programR l).Fine (l.length + 1) PPg := by
  refine (decls_fine _ l h (Nat.le_refl _)).bind fun x r h1 f1 hx => (threads_fine _ r f1 (Nat.le_refl _)).bind fun ts r2 h2 f2 hts => ⟨by omega, f2, ?_, fun t ht => (hts t ht).2.1, fun v hv => (hx.1 v hv).2, fun t ht => (hts t ht).2.2⟩
  unfold mayP
  simp only [Bool.and_eq_true]
  exact ⟨List.all_eq_true.2 fun v hv => (hx.1 v hv).1, List.all_eq_true.2 fun m hm => hx.2 m hm, List.all_eq_true.2 fun t ht => (hts t ht).1⟩
theorem toks_F (l : List UInt8) : ∀ t ∈ toksOf l, TkF t := by
  intro t ht
  unfold toksOf at ht
  rcases List.mem_append.1 ht with h | h
  · exact .inl ((lexS_fit l).1 t h)
  · rw [List.mem_singleton.1 h]
    exact .inr ⟨rfl, rfl⟩

end Go.Proofs.YtjgggmjjikopeaaGreatDoor

/- What is read hangs on no place: tokens of the same kinds and bytes are read as the same. -/
namespace Go.Proofs.YtjgggmjjikopeaaGreatDoor
set_option linter.unusedVariables false

/-- Tokens without their places. -/
def Tk.z (t : Tk) : Tk := ⟨t.kind, t.text, 0, t.bits⟩
def zs (l : List Tk) : List Tk := l.map Tk.z
def Rs.z {α : Type} : Rs α → Rs α
  | .ok v r => .ok v (zs r)
  | .bad e _ => .bad e 0
theorem hd_z (l : List Tk) : hdT (zs l) = (hdT l).z := by cases l <;> rfl
theorem hd_t (l : List Tk) : (hdT (zs l)).text = (hdT l).text := by rw [hd_z]; rfl
theorem hd_p (l : List Tk) : (hdT (zs l)).place = 0 := by rw [hd_z]; rfl
theorem tl_z (l : List Tk) : (zs l).tail = zs l.tail := by cases l <;> rfl
theorem len_z (l : List Tk) : (zs l).length = l.length := by simp [zs]
theorem lit_z (l : List Tk) : litTk (hdT (zs l)) = litTk (hdT l) := by rw [hd_z]; rfl
theorem sgl_z (l : List Tk) : signlessT (hdT (zs l)) = signlessT (hdT l) := by rw [hd_z]; rfl
theorem z_bind {α β : Type} {R : Rs α} {f : α → List Tk → Rs β} (hf : ∀ v r, f v (zs r) = (f v r).z) : R.z.bind f = (R.bind f).z := by
  cases R with
  | ok v r => exact hf v r
  | bad e p => rfl
theorem must_z (x : List UInt8) (l : List Tk) : mustR x (zs l) = (mustR x l).z := by
  unfold mustR
  rw [hd_t, hd_p, tl_z]
  split <;> rfl
theorem name_z (l : List Tk) : nameR (zs l) = (nameR l).z := by
  unfold nameR
  rw [hd_t, hd_p, tl_z]
  split <;> rfl
theorem leaf_z (l : List Tk) : leafR (zs l) = (leafR l).z := by
  unfold leafR
  rw [lit_z, hd_t, hd_p, tl_z]
  cases litTk (hdT l) with
  | some v => rfl
  | none => dsimp only; split <;> rfl
theorem node_z (p op : Nat) (ks : List Ex) (r : List Tk) : nodeR 0 op ks (zs r) = (nodeR p op ks r).z := by
  unfold nodeR
  split <;> rfl

theorem read_z (f : Nat) :
    (∀ n d l, rowF f n d (zs l) = (rowF f n d l).map Rs.z) ∧
    (∀ n m d x l, loopF f n m d x (zs l) = (loopF f n m d x l).map Rs.z) ∧
    (∀ d l, operF f d (zs l) = (operF f d l).map Rs.z) ∧
    (∀ d l, brkF f d (zs l) = (brkF f d l).map Rs.z) := by
  induction f with
  | zero => exact ⟨fun n d l => by simp [rowF], fun n m d x l => by simp [loopF], fun d l => by simp [operF], fun d l => by simp [brkF]⟩
  | succ f ih =>
    obtain ⟨ih1, ih2, ih3, ih4⟩ := ih
    refine ⟨fun n d l => ?_, fun n m d x l => ?_, fun d l => ?_, fun d l => ?_⟩
    · rw [rowF, rowF, ih3]
      cases operF f d l with
      | none => rfl
      | some y =>
        cases y with
        | bad e p => rfl
        | ok y r => exact ih2 _ _ _ _ _
    · rw [loopF, loopF, hd_t, hd_p, tl_z, ih1]
      split
      · rfl
      · cases rowF f ((bindOf (hdT l).text).2 + 1) d l.tail with
        | none => rfl
        | some y =>
          cases y with
          | bad e p => rfl
          | ok y r =>
            show (match nodeR 0 (bindOf (hdT l).text).1 [x, y] (zs r) with | .bad e p => _ | .ok z r => _) = _
            rw [node_z (hdT l).place]
            dsimp only
            cases nodeR (hdT l).place (bindOf (hdT l).text).1 [x, y] r with
            | bad e p => rfl
            | ok z r => exact ih2 _ _ _ _ _
    · rw [operF, operF, hd_t, hd_p, tl_z, ih3, ih4, ih4, leaf_z]
      split
      · rfl
      · split
        · rfl
        · split
          · cases operF f (d + 1) l.tail with
            | none => rfl
            | some y =>
              cases y with
              | bad e p => rfl
              | ok y r => exact congrArg some (node_z _ _ _ _)
          · split
            · rfl
            · cases brkF f d l.tail with
              | none => rfl
              | some y =>
                cases y with
                | bad e p => rfl
                | ok y r => exact congrArg some (node_z _ _ _ _)
    · rw [brkF, brkF, must_z]
      cases mustR [40] l with
      | bad e p => rfl
      | ok u r =>
        show (match rowF f 1 (d + 1) (zs r) with | none => _ | some (.bad e p) => _ | some (.ok y r) => _) = _
        rw [ih1]
        dsimp only
        cases rowF f 1 (d + 1) r with
        | none => rfl
        | some y =>
          cases y with
          | bad e p => rfl
          | ok y r2 =>
            show (match mustR [41] (zs r2) with | .bad e p => _ | .ok _ r => _) = _
            rw [must_z]
            dsimp only
            cases mustR [41] r2 <;> rfl
theorem expr_z (l : List Tk) : exprR (zs l) = (exprR l).z := by
  have h1 := exprR_row (zs l)
  rw [len_z, (read_z _).1, exprR_row l] at h1
  exact (Option.some.inj h1).symm

theorem type_z (l : List Tk) : typeR (zs l) = (typeR l).z := by
  unfold typeR
  rw [hd_t, hd_p, tl_z]
  split
  · rfl
  · split
    · rfl
    · split <;> rfl
theorem valM_z (m : Bool) (t p : Nat) (l : List Tk) : valueM m t 0 (zs l) = (valueM m t p l).z := by
  unfold valueM
  rw [lit_z, sgl_z, hd_p, tl_z]
  cases litTk (hdT l) with
  | none => rfl
  | some v =>
    dsimp only
    split
    · rfl
    · split <;> rfl
theorem val_z (t : Nat) (l : List Tk) : valueR t (zs l) = (valueR t l).z := by
  unfold valueR
  rw [hd_t, hd_p, tl_z]
  split
  · exact valM_z _ _ _ _
  · exact valM_z _ _ _ _
theorem init_z (t : Nat) (l : List Tk) : initR t (zs l) = (initR t l).z := by
  unfold initR
  rw [hd_t, tl_z, val_z]
  split <;> rfl
theorem var_z (l : List Tk) : variableR (zs l) = (variableR l).z := by
  unfold variableR
  rw [name_z]
  refine z_bind fun x r => ?_
  rw [type_z]
  refine z_bind fun t r => ?_
  rw [init_z]
  refine z_bind fun v r => ?_
  rw [must_z]
  exact z_bind fun _ r => rfl
theorem simple_z (l : List Tk) : simpleR (zs l) = (simpleR l).z := by
  unfold simpleR
  rw [hd_t, tl_z, name_z, expr_z, name_z]
  split
  · exact z_bind fun x r => rfl
  · split
    · exact z_bind fun x r => rfl
    · split
      · exact z_bind fun x r => rfl
      · split
        · rfl
        · refine z_bind fun x r => ?_
          rw [must_z]
          refine z_bind fun _ r => ?_
          rw [expr_z]
          exact z_bind fun e r => rfl
theorem stmt_z (f : Nat) : ∀ (d : Nat) (l : List Tk), stmtR f d (zs l) = (stmtR f d l).z ∧ elseR f d (zs l) = (elseR f d l).z ∧ blockR f d (zs l) = (blockR f d l).z ∧ stmtsR f d (zs l) = (stmtsR f d l).z := by
  induction f with
  | zero => exact fun d l => ⟨by rw [stmtR, stmtR]; rfl, by rw [elseR, elseR]; rfl, by rw [blockR, blockR]; rfl, by rw [stmtsR, stmtsR]; rfl⟩
  | succ f ih =>
    intro d l
    refine ⟨?_, ?_, ?_, ?_⟩
    · rw [stmtR, stmtR, hd_t, tl_z, expr_z, simple_z]
      split
      · refine z_bind fun e r => ?_
        rw [(ih d r).2.2.1]
        refine z_bind fun b r => ?_
        rw [(ih d r).2.1]
        exact z_bind fun c r => rfl
      · split
        · refine z_bind fun e r => ?_
          rw [(ih d r).2.2.1]
          exact z_bind fun b r => rfl
        · refine z_bind fun s r => ?_
          rw [must_z]
          exact z_bind fun _ r => rfl
    · rw [elseR, elseR, hd_t, tl_z, (ih d l.tail).2.2.1]
      split <;> rfl
    · rw [blockR, blockR, must_z, hd_p]
      cases mustR [123] l with
      | bad e p => rfl
      | ok u r =>
        show (if 32 ≤ d then Rs.bad 160 0 else stmtsR f (d + 1) (zs r)) = (if 32 ≤ d then Rs.bad 160 (hdT l).place else stmtsR f (d + 1) r).z
        rw [(ih (d + 1) r).2.2.2]
        split <;> rfl
    · rw [stmtsR, stmtsR, hd_t, tl_z, (ih d l).1]
      split
      · rfl
      · refine z_bind fun s r => ?_
        rw [(ih d r).2.2.2]
        exact z_bind fun ss r => rfl
theorem locals_z (f : Nat) : ∀ l : List Tk, localsR f (zs l) = (localsR f l).z := by
  induction f with
  | zero => intro l; rfl
  | succ f ih =>
    intro l
    rw [localsR, localsR, hd_t, tl_z, var_z]
    split
    · refine z_bind fun v r => ?_
      rw [ih r]
      exact z_bind fun vs r => rfl
    · rfl
theorem thread_z (l : List Tk) : threadR (zs l) = (threadR l).z := by
  unfold threadR
  rw [name_z]
  refine z_bind fun x r => ?_
  rw [must_z]
  refine z_bind fun _ r => ?_
  rw [len_z, locals_z]
  refine z_bind fun vs r => ?_
  rw [len_z, (stmt_z _ 0 r).2.2.2]
  exact z_bind fun b r => rfl
theorem decls_z (f : Nat) : ∀ l : List Tk, declsR f (zs l) = (declsR f l).z := by
  induction f with
  | zero => intro l; rfl
  | succ f ih =>
    intro l
    rw [declsR, declsR, hd_t, tl_z, var_z, name_z]
    split
    · refine z_bind fun v r => ?_
      rw [ih r]
      exact z_bind fun vs r => rfl
    · split
      · refine z_bind fun m r => ?_
        rw [must_z]
        refine z_bind fun _ r => ?_
        rw [ih r]
        exact z_bind fun x r => rfl
      · rfl
theorem threads_z (f : Nat) : ∀ l : List Tk, threadsR f (zs l) = (threadsR f l).z := by
  induction f with
  | zero => intro l; rfl
  | succ f ih =>
    intro l
    rw [threadsR, threadsR, hd_t, tl_z, thread_z]
    split
    · refine z_bind fun v r => ?_
      rw [ih r]
      exact z_bind fun vs r => rfl
    · rfl
theorem program_z (l : List Tk) : programR (zs l) = (programR l).z := by
  unfold programR
  rw [len_z, decls_z]
  refine z_bind fun x r => ?_
  rw [len_z, threads_z]
  exact z_bind fun ts r => rfl

/-- Tokens, a blank behind each. -/
def jnT : List Tk → List UInt8
  | [] => []
  | t :: r => t.text ++ 32 :: jnT r
theorem jnT_app : ∀ a b : List Tk, jnT (a ++ b) = jnT a ++ jnT b
  | [], b => rfl
  | t :: a, b => by rw [List.cons_append, jnT, jnT, jnT_app a b]; simp
theorem LexTo.fit {t : Tk} {r : List UInt8} {ks : List (Nat × List UInt8)} (h : TkFit t) (k : LexTo r ks) : LexTo (t.text ++ 32 :: r) ((t.kind, t.text) :: ks) := by
  rcases h with ⟨-, ⟨e, h1, h2, h3⟩ | ⟨e, h⟩ | ⟨e, h⟩ | ⟨e, h⟩⟩
  · rw [e]; exact .word h1 h2 h3 (Sp.mk32 r) k.bl32
  · rw [e]; exact .num2 h (Sp.mk32 r) k.bl32
  · rw [e]; exact .num3 h (Sp.mk32 r) k.bl32
  · rw [e]
    have hl : ∀ y ∈ signs, y.length = 1 ∨ y.length = 2 := by decide
    have := hl _ h
    match hx : t.text, this with
    | [c], _ => exact .sign1 (hx ▸ h) (Sp.mk32 r).nq k.bl32
    | [c, d], _ => exact .sign2 (hx ▸ h) k.bl32
theorem jn_lex : ∀ l : List Tk, (∀ t ∈ l, TkFit t) → LexTo (jnT l) (l.map fun t => (t.kind, t.text))
  | [], _ => .nil
  | t :: r, h => (jn_lex r fun u hu => h u (List.mem_cons_of_mem _ hu)).fit (h t List.mem_cons_self)
theorem zs_are : ∀ {l l' : List Tk}, (∀ t ∈ l, TkFit t) → Are l' (l.map fun t => (t.kind, t.text)) → zs l' = zs l
  | [], l', _, h => by rw [h.nil]
  | t :: r, l', h, ha => by
    obtain ⟨t', r', rfl, h1, h2, h3, h4⟩ := Are.cons (by simpa using ha)
    have e := zs_are (fun u hu => h u (List.mem_cons_of_mem _ hu)) h4
    have ht := (h t List.mem_cons_self).1
    show t'.z :: zs r' = t.z :: zs r
    rw [e]
    unfold Tk.z
    dsimp only at h1 h2 h3
    rw [h1, h2, h3, ht]
theorem fit_len {t : Tk} (h : TkFit t) : t.text.length ≤ 24 := by
  rcases h with ⟨-, ⟨-, h, -⟩ | ⟨-, h⟩ | ⟨-, h⟩ | ⟨-, h⟩⟩
  · exact h
  · have := long_bad t.text
    rcases Nat.lt_or_ge 19 t.text.length with h1 | h1
    · exact absurd h (this h1)
    · omega
  · have := congrArg List.length (lit_split h)
    have h2 := h.2.2.1
    rw [List.length_append, List.length_cons] at this
    omega
  · have hl : ∀ y ∈ signs, y.length ≤ 24 := by decide
    exact hl _ h
theorem jnT_len : ∀ l : List Tk, (∀ t ∈ l, TkFit t) → (jnT l).length ≤ 25 * l.length
  | [], _ => Nat.le_refl _
  | t :: r, h => by
    have h1 := fit_len (h t List.mem_cons_self)
    have h2 := jnT_len r fun u hu => h u (List.mem_cons_of_mem _ hu)
    rw [jnT, List.length_append, List.length_cons, List.length_cons]
    omega
theorem tkW_len : ∀ l : List Tk, (∀ t ∈ l, TkF t) → tkW l ≤ 25 * l.length
  | [], _ => Nat.le_refl _
  | t :: r, h => by
    have h1 : t.text.length ≤ 24 := by
      rcases h t List.mem_cons_self with h | ⟨-, h⟩
      · exact fit_len h
      · rw [h]; decide
    have h2 := tkW_len r fun u hu => h u (List.mem_cons_of_mem _ hu)
    rw [tkW, List.length_cons]
    omega

/-- What is read may be printed; joined by blanks its tokens are read as the same. -/
theorem again_math (l : List UInt8) (X : Pg) (h : pgO l (programR (toksOf l)) = (X, 0, 0)) :
    PPg X ∧ pgW X ≤ 1048576 ∧ (lexS l).err = 0 ∧ ((jnT (lexS l).toks).length ≤ 16384 → pgO (jnT (lexS l).toks) (programR (toksOf (jnT (lexS l).toks))) = (X, 0, 0)) := by
  have hF := toks_F l
  have hfine := program_fine hF
  have hw := programR_w (toksOf l)
  unfold pgO at h
  by_cases he : (lexS l).err = 0
  · rw [if_pos he] at h
    cases hp : programR (toksOf l) with
    | bad e p =>
      rw [hp] at h hfine
      exact absurd (congrArg (fun x : Pg × Nat × Nat => x.2.1) h) hfine
    | ok x r =>
      rw [hp] at h hfine hw
      dsimp only at h
      have hr : ¬ 1 < r.length := by
        intro hr
        rw [show endR r = .bad 4 (hdT r).place by unfold endR; exact if_pos hr] at h
        have : (4 : Nat) = 0 := congrArg (fun x : Pg × Nat × Nat => x.2.1) h
        cases this
      rw [show endR r = .ok () r by unfold endR; exact if_neg hr] at h
      obtain rfl : x = X := congrArg Prod.fst h
      have hlen := (lexS_ok l).2
      refine ⟨hfine.2.2, ?_, he, fun hj => ?_⟩
      · have h1 : pgW x + tkW r ≤ tkW (toksOf l) := hw
        have h2 := tkW_len (toksOf l) hF
        have h3 : (toksOf l).length = (lexS l).toks.length + 1 := by unfold toksOf; simp
        omega
      · obtain ⟨j1, j2⟩ := lexS_to (jn_lex (lexS l).toks (lexS_fit l).1) hj
        have hz : zs (toksOf (jnT (lexS l).toks)) = zs (toksOf l) := by
          have := zs_are (lexS_fit l).1 j2
          unfold toksOf zs at *
          rw [List.map_append, List.map_append, this]
          rfl
        have hq := program_z (toksOf (jnT (lexS l).toks))
        rw [hz, program_z, hp] at hq
        unfold pgO
        rw [if_pos j1]
        cases hp2 : programR (toksOf (jnT (lexS l).toks)) with
        | bad e p => rw [hp2] at hq; cases hq
        | ok x2 r2 =>
          rw [hp2] at hq
          have hq : Rs.ok x (zs r) = Rs.ok x2 (zs r2) := hq
          injection hq with e1 e2
          subst e1
          have := congrArg List.length e2
          rw [len_z, len_z] at this
          dsimp only
          rw [show endR r2 = .ok () r2 by unfold endR; exact if_neg (by omega)]
  · rw [if_neg he] at h
    exact absurd (congrArg (fun x : Pg × Nat × Nat => x.2.1) h) he

end Go.Proofs.YtjgggmjjikopeaaGreatDoor

/- The texts of the chapter's examples, reckoned. -/
namespace Go.Proofs.YtjgggmjjikopeaaGreatDoor
set_option linter.unusedVariables false

def tK1 : List UInt8 := [115, 104, 97, 114, 101, 100, 32, 120, 32, 105, 110, 116, 32, 61, 32, 45, 51, 59, 32, 109, 117, 116, 101, 120, 32, 109, 59, 32, 116, 104, 114, 101, 97, 100, 32, 116, 32, 123, 32, 120, 32, 61, 32, 49, 59, 32, 125]
def pgK1 : Pg := ⟨[⟨[120], 1, 18446744073709551613⟩], [[109]], [⟨[116], [], [.mk 1 [120] (.mk 1 1 1 [] []) [] []]⟩]⟩
set_option maxRecDepth 100000 in
theorem k1 : pgO tK1 (programR (toksOf tK1)) = (pgK1, 0, 0) := by kernel_rfl
set_option maxRecDepth 100000 in
theorem k2 : exO [40, 97] (exprR (toksOf [40, 97])) = (noX.ex, 4, 2) := by kernel_rfl
set_option maxRecDepth 100000 in
theorem k3 : exO [105, 110, 116, 32, 97] (exprR (toksOf [105, 110, 116, 32, 97])) = (noX.ex, 4, 4) := by kernel_rfl
set_option maxRecDepth 100000 in
theorem k4 : pgO [115, 104, 97, 114, 101, 100, 32, 120, 32, 105, 110, 116, 32, 61, 32, 116, 114, 117, 101, 59] (programR (toksOf [115, 104, 97, 114, 101, 100, 32, 120, 32, 105, 110, 116, 32, 61, 32, 116, 114, 117, 101, 59])) = (noP.pg, 9, 15) := by kernel_rfl
set_option maxRecDepth 100000 in
theorem k5 : pgO [116, 104, 114, 101, 97, 100, 32, 116, 32, 123, 32, 120, 32, 61, 32, 49, 32, 125] (programR (toksOf [116, 104, 114, 101, 97, 100, 32, 116, 32, 123, 32, 120, 32, 61, 32, 49, 32, 125])) = (noP.pg, 4, 17) := by kernel_rfl
set_option maxRecDepth 100000 in
theorem k6 : exO (49 :: manyS [32, 43, 32, 49] 32) (exprR (toksOf (49 :: manyS [32, 43, 32, 49] 32))) = (noX.ex, 160, 126) := by kernel_rfl
set_option maxRecDepth 100000 in
theorem k7 : exO (manyS [40] 33) (exprR (toksOf (manyS [40] 33))) = (noX.ex, 160, 32) := by kernel_rfl
end Go.Proofs.YtjgggmjjikopeaaGreatDoor
