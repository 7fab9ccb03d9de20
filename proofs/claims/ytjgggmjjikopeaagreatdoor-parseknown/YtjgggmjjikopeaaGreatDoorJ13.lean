/- Joined texts of the proof. -/
import Derived.Test.YtjgggmjjikopeaaGreatDoorJ12

/- Reading programs, as plain functions on lists of tokens. -/
namespace Go.Proofs.YtjgggmjjikopeaaGreatDoor
set_option linter.unusedVariables false

/-- One behind the other. -/
def Rs.bind {α β : Type} (R : Rs α) (f : α → List Tk → Rs β) : Rs β :=
  match R with
  | .ok v r => f v r
  | .bad e p => .bad e p
theorem Rs.bind_bind {α β γ : Type} (R : Rs α) (f : α → List Tk → Rs β) (g : β → List Tk → Rs γ) : (R.bind f).bind g = R.bind fun v r => (f v r).bind g := by cases R <;> rfl
theorem Rs.Left.mono {α : Type} {R : Rs α} {n m : Nat} (h : R.Left n) (hm : n ≤ m) : R.Left m := by
  cases R with
  | ok v r => exact Nat.lt_of_lt_of_le h hm
  | bad e p => trivial
theorem Rs.Left.bind {α β : Type} {R : Rs α} {f : α → List Tk → Rs β} {n : Nat} (h : R.Left n) (hf : ∀ v r, r.length < n → (f v r).Left n) : (R.bind f).Left n := by
  cases R with
  | ok v r => exact hf v r h
  | bad e p => trivial

/-- The reader of expressions comes to an end in so many rounds. -/
theorem totalF (N : Nat) : ∀ l : List Tk, l.length ≤ N →
    (∀ d, ∃ r, operF (4 * N + 2) d l = some r ∧ r.Left l.length) ∧
    (∀ d, ∃ r, brkF (4 * N + 1) d l = some r ∧ r.Left l.length) ∧
    (∀ n d, 1 ≤ n → ∃ r, rowF (4 * N + 3) n d l = some r ∧ r.Left l.length) ∧
    (∀ n m d x, 1 ≤ n → ∃ r, loopF (4 * N + 1) n m d x l = some r ∧ r.Left (l.length + 1)) := by
  induction N with
  | zero =>
    intro l hl
    obtain rfl : l = [] := List.eq_nil_of_length_eq_zero (by omega)
    have ho : ∀ d, operF 2 d [] = some (.bad 4 0) := fun d => by rw [operF, if_pos ⟨by decide, by decide⟩]; rfl
    refine ⟨fun d => ⟨_, ho d, trivial⟩, fun d => ⟨.bad 4 0, by rw [brkF]; rfl, trivial⟩, fun n d _ => ⟨.bad 4 0, ?_, trivial⟩, fun n m d x hn => ⟨.ok x [], ?_, by simp [Rs.Left]⟩⟩
    · rw [rowF, ho]
    · rw [loopF, if_pos (.inl (by show 0 < n; omega))]
  | succ N ih =>
    intro l hl
    have hB : ∀ d, ∃ r, brkF (4 * (N + 1) + 1) d l = some r ∧ r.Left l.length := by
      intro d
      have hm := mustR_left (x := [40]) (l := l) (by decide)
      cases h1 : mustR [40] l with
      | bad e p => exact ⟨.bad e p, by rw [brkF, h1], trivial⟩
      | ok u r =>
        rw [h1] at hm
        have hm : r.length < l.length := hm
        obtain ⟨y, hy, hl2⟩ := (ih r (by omega)).2.2.1 1 (d + 1) (Nat.le_refl _)
        have hy := rowF_le hy (show 4 * N + 3 ≤ 4 * (N + 1) by omega)
        cases y with
        | bad e p => exact ⟨.bad e p, by rw [brkF, h1]; dsimp only; rw [hy], trivial⟩
        | ok y r2 =>
          have hl2 : r2.length < r.length := hl2
          have hm2 := mustR_left (x := [41]) (l := r2) (by decide)
          cases h2 : mustR [41] r2 with
          | bad e p => exact ⟨.bad e p, by rw [brkF, h1]; dsimp only; rw [hy]; dsimp only; rw [h2], trivial⟩
          | ok u r3 =>
            rw [h2] at hm2
            have hm2 : r3.length < r2.length := hm2
            exact ⟨.ok y r3, by rw [brkF, h1]; dsimp only; rw [hy]; dsimp only; rw [h2], by show r3.length < _; omega⟩
    have hO : ∀ d, ∃ r, operF (4 * (N + 1) + 2) d l = some r ∧ r.Left l.length := by
      intro d
      by_cases c1 : openOf (hdT l).text = 0 ∧ (hdT l).text ≠ [40]
      · exact ⟨leafR l, by rw [operF, if_pos c1], leafR_left l⟩
      · have ht := tail_lt (open_nil c1)
        by_cases c2 : 32 ≤ d
        · exact ⟨.bad 160 (hdT l).place, by rw [operF, if_neg c1, if_pos c2], trivial⟩
        · by_cases c3 : openOf (hdT l).text = 16 ∨ openOf (hdT l).text = 17
          · obtain ⟨y, hy, hl2⟩ := (ih l.tail (by omega)).1 (d + 1)
            have hy := operF_le hy (show 4 * N + 2 ≤ 4 * (N + 1) + 1 by omega)
            cases y with
            | bad e p => exact ⟨.bad e p, by rw [operF, if_neg c1, if_neg c2, if_pos c3, hy], trivial⟩
            | ok y r2 => exact ⟨_, by rw [operF, if_neg c1, if_neg c2, if_pos c3, hy], nodeR_left (by have : r2.length < l.tail.length := hl2; omega)⟩
          · by_cases c4 : openOf (hdT l).text = 0
            · obtain ⟨y, hy, hl2⟩ := hB d
              exact ⟨y, by rw [operF, if_neg c1, if_neg c2, if_neg c3, if_pos c4, hy], hl2⟩
            · obtain ⟨y, hy, hl2⟩ := (ih l.tail (by omega)).2.1 d
              have hy := brkF_le hy (show 4 * N + 1 ≤ 4 * (N + 1) + 1 by omega)
              cases y with
              | bad e p => exact ⟨.bad e p, by rw [operF, if_neg c1, if_neg c2, if_neg c3, if_neg c4, hy], trivial⟩
              | ok y r2 => exact ⟨_, by rw [operF, if_neg c1, if_neg c2, if_neg c3, if_neg c4, hy], nodeR_left (by have : r2.length < l.tail.length := hl2; omega)⟩
    refine ⟨hO, hB, fun n d hn => ?_, fun n m d x hn => ?_⟩
    · obtain ⟨y, hy, hl2⟩ := hO d
      cases y with
      | bad e p => exact ⟨.bad e p, by rw [rowF, hy], trivial⟩
      | ok y r2 =>
        have hl2 : r2.length < l.length := hl2
        obtain ⟨z, hz, hl3⟩ := (ih r2 (by omega)).2.2.2 n 5 d y hn
        refine ⟨z, ?_, ?_⟩
        · rw [rowF, hy]
          exact loopF_le hz (by omega)
        · cases z with
          | bad e p => trivial
          | ok z r3 => show r3.length < _; have : r3.length < r2.length + 1 := hl3; omega
    · by_cases c1 : (bindOf (hdT l).text).2 < n ∨ m < (bindOf (hdT l).text).2
      · exact ⟨.ok x l, by rw [loopF, if_pos c1], by simp [Rs.Left]⟩
      · have ht := tail_lt (bind_nil (l := l) (by omega))
        obtain ⟨y, hy, hl2⟩ := (ih l.tail (by omega)).2.2.1 ((bindOf (hdT l).text).2 + 1) d (by omega)
        have hy := rowF_le hy (show 4 * N + 3 ≤ 4 * (N + 1) by omega)
        cases y with
        | bad e p => exact ⟨.bad e p, by rw [loopF, if_neg c1, hy], trivial⟩
        | ok y r2 =>
          have hl2 : r2.length < l.tail.length := hl2
          cases hn2 : nodeR (hdT l).place (bindOf (hdT l).text).1 [x, y] r2 with
          | bad e p => exact ⟨.bad e p, by rw [loopF, if_neg c1, hy]; dsimp only; rw [hn2], trivial⟩
          | ok z r3 =>
            have h3 : r3 = r2 := by
              unfold nodeR at hn2
              split at hn2
              · cases hn2
              · cases hn2; rfl
            subst h3
            obtain ⟨u, hu, hl4⟩ := (ih r3 (by omega)).2.2.2 n (mostOf (bindOf (hdT l).text).2) d z hn
            refine ⟨u, ?_, ?_⟩
            · rw [loopF, if_neg c1, hy]
              dsimp only
              rw [hn2]
              exact loopF_le hu (by omega)
            · cases u with
              | bad e p => trivial
              | ok u r5 => show r5.length < _; have : r5.length < r3.length + 1 := hl4; omega

/-- An expression of a statement. -/
def exprR (l : List Tk) : Rs Ex := (rowF (4 * l.length + 3) 1 0 l).getD (.bad 0 0)
theorem exprR_row (l : List Tk) : rowF (4 * l.length + 3) 1 0 l = some (exprR l) := by
  obtain ⟨r, h, -⟩ := (totalF l.length l (Nat.le_refl _)).2.2.1 1 0 (Nat.le_refl _)
  unfold exprR
  rw [h]
  rfl
theorem exprR_left (l : List Tk) : (exprR l).Left l.length := by
  obtain ⟨r, h, h2⟩ := (totalF l.length l (Nat.le_refl _)).2.2.1 1 0 (Nat.le_refl _)
  unfold exprR
  rw [h]
  exact h2

theorem nameR_left (l : List Tk) : (nameR l).Left l.length := by
  unfold nameR
  split
  · next h => exact tail_lt (nm_ne h)
  · trivial

/-- A type. -/
def typeR (l : List Tk) : Rs Nat :=
  if (hdT l).text = [105, 110, 116] then .ok 1 l.tail else if (hdT l).text = [98, 111, 111, 108] then .ok 2 l.tail else if (hdT l).text = [114, 101, 97, 108] then .ok 3 l.tail else .bad 4 (hdT l).place
theorem typeR_left (l : List Tk) : (typeR l).Left l.length := by
  unfold typeR
  split
  · next h => exact tail_lt (by rw [h]; decide)
  · split
    · next h => exact tail_lt (by rw [h]; decide)
    · split
      · next h => exact tail_lt (by rw [h]; decide)
      · trivial

/-- A literal ahead of which no sign stands. -/
def signlessT (t : Tk) : Bool := decide (t.kind = 1) && !decide (t.text = [105, 110, 102])
/-- The other sign. -/
def negV (v : Nat × Nat) : Nat × Nat := if v.1 = 1 then (1, (18446744073709551616 - v.2) % 18446744073709551616) else (3, fneg v.2)
/-- A value behind its sign. -/
def valueM (m : Bool) (t p : Nat) (l : List Tk) : Rs (Nat × Nat) :=
  match litTk (hdT l) with
  | none => .bad 4 (hdT l).place
  | some v => if m && signlessT (hdT l) then .bad 4 (hdT l).place else if v.1 = t then .ok (if m then negV v else v) l.tail else .bad 9 p
/-- A value of a type. -/
def valueR (t : Nat) (l : List Tk) : Rs (Nat × Nat) := if (hdT l).text = [45] then valueM true t (hdT l).place l.tail else valueM false t (hdT l).place l
theorem valueM_left (m : Bool) (t p : Nat) (l : List Tk) : (valueM m t p l).Left l.length := by
  cases l with
  | nil => exact trivial
  | cons a r =>
    unfold valueM
    split
    · trivial
    · split
      · trivial
      · split
        · simp [Rs.Left]
        · trivial
theorem tail_le (l : List Tk) : l.tail.length ≤ l.length := by simp
theorem valueR_left (t : Nat) (l : List Tk) : (valueR t l).Left l.length := by
  unfold valueR
  split
  · exact (valueM_left _ _ _ _).mono (tail_le l)
  · exact valueM_left _ _ _ _
/-- What a variable is at first. -/
def initR (t : Nat) (l : List Tk) : Rs (Nat × Nat) := if (hdT l).text = [61] then valueR t l.tail else .ok (t, 0) l
theorem initR_left (t : Nat) (l : List Tk) : (initR t l).Left (l.length + 1) := by
  unfold initR
  split
  · exact (valueR_left _ _).mono (by have := tail_le l; omega)
  · simp [Rs.Left]
/-- A variable behind its first word. -/
def variableR (l : List Tk) : Rs Vr := (nameR l).bind fun x r => (typeR r).bind fun t r => (initR t r).bind fun v r => (mustR [59] r).bind fun _ r => .ok ⟨x, v.1, v.2⟩ r
theorem variableR_left (l : List Tk) : (variableR l).Left l.length := by
  refine (nameR_left l).bind fun x r h1 => ((typeR_left r).mono (Nat.le_of_lt h1)).bind fun t r2 h2 => ?_
  refine ((initR_left t r2).mono (show r2.length + 1 ≤ l.length by omega)).bind fun v r3 h3 => ?_
  exact ((mustR_left (by decide)).mono (Nat.le_of_lt h3)).bind fun _ r4 h4 => h4

/-- A statement without blocks. -/
def simpleR (l : List Tk) : Rs St :=
  if (hdT l).text = [108, 111, 99, 107] then (nameR l.tail).bind fun x r => .ok (.mk 2 x noE [] []) r
  else if (hdT l).text = [117, 110, 108, 111, 99, 107] then (nameR l.tail).bind fun x r => .ok (.mk 3 x noE [] []) r
  else if (hdT l).text = [97, 115, 115, 101, 114, 116] then (exprR l.tail).bind fun e r => .ok (.mk 4 [] e [] []) r
  else if (hdT l).text = [115, 107, 105, 112] then .ok (.mk 7 [] noE [] []) l.tail
  else (nameR l).bind fun x r => (mustR [61] r).bind fun _ r => (exprR r).bind fun e r => .ok (.mk 1 x e [] []) r

mutual
/-- A statement. -/
def stmtR : Nat → Nat → List Tk → Rs St
  | 0, _, _ => .bad 0 0
  | f + 1, d, l =>
    if (hdT l).text = [105, 102] then (exprR l.tail).bind fun e r => (blockR f d r).bind fun b r => (elseR f d r).bind fun c r => .ok (.mk 5 [] e b c) r
    else if (hdT l).text = [119, 104, 105, 108, 101] then (exprR l.tail).bind fun e r => (blockR f d r).bind fun b r => .ok (.mk 6 [] e b []) r
    else (simpleR l).bind fun s r => (mustR [59] r).bind fun _ r => .ok s r
/-- What stands behind an If's block. -/
def elseR : Nat → Nat → List Tk → Rs (List St)
  | 0, _, _ => .bad 0 0
  | f + 1, d, l => if (hdT l).text = [101, 108, 115, 101] then blockR f d l.tail else .ok [] l
/-- A block. -/
def blockR : Nat → Nat → List Tk → Rs (List St)
  | 0, _, _ => .bad 0 0
  | f + 1, d, l => (mustR [123] l).bind fun _ r => if 32 ≤ d then .bad 160 (hdT l).place else stmtsR f (d + 1) r
/-- Statements, and the bracket behind them. -/
def stmtsR : Nat → Nat → List Tk → Rs (List St)
  | 0, _, _ => .bad 0 0
  | f + 1, d, l => if (hdT l).text = [125] then .ok [] l.tail else (stmtR f d l).bind fun s r => (stmtsR f d r).bind fun ss r => .ok (s :: ss) r
end

/-- Locals. -/
def localsR : Nat → List Tk → Rs (List Vr)
  | 0, _ => .bad 0 0
  | f + 1, l => if (hdT l).text = [108, 111, 99, 97, 108] then (variableR l.tail).bind fun v r => (localsR f r).bind fun vs r => .ok (v :: vs) r else .ok [] l
/-- A thread behind its first word. -/
def threadR (l : List Tk) : Rs Th := (nameR l).bind fun x r => (mustR [123] r).bind fun _ r => (localsR (r.length + 1) r).bind fun vs r => (stmtsR (4 * r.length + 4) 0 r).bind fun b r => .ok ⟨x, vs, b⟩ r
/-- Variables and mutexes. -/
def declsR : Nat → List Tk → Rs (List Vr × List (List UInt8))
  | 0, _ => .bad 0 0
  | f + 1, l =>
    if (hdT l).text = [115, 104, 97, 114, 101, 100] then (variableR l.tail).bind fun v r => (declsR f r).bind fun x r => .ok (v :: x.1, x.2) r
    else if (hdT l).text = [109, 117, 116, 101, 120] then (nameR l.tail).bind fun m r => (mustR [59] r).bind fun _ r => (declsR f r).bind fun x r => .ok (x.1, m :: x.2) r
    else .ok ([], []) l
/-- Threads. -/
def threadsR : Nat → List Tk → Rs (List Th)
  | 0, _ => .bad 0 0
  | f + 1, l => if (hdT l).text = [116, 104, 114, 101, 97, 100] then (threadR l.tail).bind fun t r => (threadsR f r).bind fun ts r => .ok (t :: ts) r else .ok [] l
/-- A program. -/
def programR (l : List Tk) : Rs Pg := (declsR (l.length + 1) l).bind fun x r => (threadsR (r.length + 1) r).bind fun ts r => .ok ⟨x.1, x.2, ts⟩ r

theorem simpleR_left (l : List Tk) : (simpleR l).Left l.length := by
  have ht := tail_le l
  unfold simpleR
  split
  · exact ((nameR_left l.tail).mono ht).bind fun x r h => h
  · split
    · exact ((nameR_left l.tail).mono ht).bind fun x r h => h
    · split
      · exact ((exprR_left l.tail).mono ht).bind fun x r h => h
      · split
        · next h => exact tail_lt (by rw [h]; decide)
        · exact (nameR_left l).bind fun x r h1 => ((mustR_left (by decide)).mono (Nat.le_of_lt h1)).bind fun _ r2 h2 => ((exprR_left r2).mono (Nat.le_of_lt h2)).bind fun e r3 h3 => h3

theorem stmt_left (f : Nat) : ∀ (d : Nat) (l : List Tk), (stmtR f d l).Left l.length ∧ (elseR f d l).Left (l.length + 1) ∧ (blockR f d l).Left l.length ∧ (stmtsR f d l).Left l.length := by
  induction f with
  | zero => exact fun d l => ⟨by rw [stmtR]; trivial, by rw [elseR]; trivial, by rw [blockR]; trivial, by rw [stmtsR]; trivial⟩
  | succ f ih =>
    intro d l
    have ht := tail_le l
    refine ⟨?_, ?_, ?_, ?_⟩
    · rw [stmtR]
      split
      · refine ((exprR_left l.tail).mono ht).bind fun e r h1 => (((ih d r).2.2.1).mono (Nat.le_of_lt h1)).bind fun b r2 h2 => ?_
        exact (((ih d r2).2.1).mono (by omega)).bind fun c r3 h3 => h3
      · split
        · exact ((exprR_left l.tail).mono ht).bind fun e r h1 => (((ih d r).2.2.1).mono (Nat.le_of_lt h1)).bind fun b r2 h2 => h2
        · exact (simpleR_left l).bind fun s r h1 => ((mustR_left (by decide)).mono (Nat.le_of_lt h1)).bind fun _ r2 h2 => h2
    · rw [elseR]
      split
      · exact ((ih d l.tail).2.2.1).mono (by omega)
      · exact Nat.lt_succ_self _
    · rw [blockR]
      refine (mustR_left (by decide)).bind fun _ r h1 => ?_
      split
      · trivial
      · exact ((ih (d + 1) r).2.2.2).mono (Nat.le_of_lt h1)
    · rw [stmtsR]
      split
      · next h => exact tail_lt (by rw [h]; decide)
      · exact ((ih d l).1).bind fun s r h1 => (((ih d r).2.2.2).mono (Nat.le_of_lt h1)).bind fun ss r2 h2 => h2
theorem localsR_left (f : Nat) : ∀ l : List Tk, (localsR f l).Left (l.length + 1) := by
  induction f with
  | zero => exact fun l => trivial
  | succ f ih =>
    intro l
    have ht := tail_le l
    rw [localsR]
    split
    · exact ((variableR_left l.tail).mono (by omega)).bind fun v r h1 => ((ih r).mono (by omega)).bind fun vs r2 h2 => h2
    · exact Nat.lt_succ_self _
theorem threadR_left (l : List Tk) : (threadR l).Left l.length := by
  refine (nameR_left l).bind fun x r h1 => ((mustR_left (by decide)).mono (Nat.le_of_lt h1)).bind fun _ r2 h2 => ((localsR_left _ r2).mono (by omega)).bind fun vs r3 h3 => ?_
  exact (((stmt_left _ 0 r3).2.2.2).mono (Nat.le_of_lt h3)).bind fun b r4 h4 => h4
end Go.Proofs.YtjgggmjjikopeaaGreatDoor

/- The reader of programs: types, signs. -/
namespace Go.Proofs.YtjgggmjjikopeaaGreatDoor
open Go.RowKit
set_option linter.unusedVariables false

theorem takes_yes {B : Nat} (g : Nat) (l : List Tk) (x : ByteArray) (hx : bytes x ≠ []) (hc : (hdT l).text = bytes x) (w : World) (h : Rd B w g l) :
    Calls Tryz.prog 55 #[.pointer (some ⟨g, 0, none⟩), .string x] w fun r w' => r = .returned (.bool true) ∧ Rd B w' g l.tail ∧ But g w w' := by
  have := takes_any g l x hx w h
  rw [if_pos hc, decide_eq_true hc] at this
  exact this
theorem takes_no {B : Nat} (g : Nat) (l : List Tk) (x : ByteArray) (hx : bytes x ≠ []) (hc : (hdT l).text ≠ bytes x) (w : World) (h : Rd B w g l) :
    Calls Tryz.prog 55 #[.pointer (some ⟨g, 0, none⟩), .string x] w fun r w' => r = .returned (.bool false) ∧ Rd B w' g l ∧ But g w w' := by
  have := takes_any g l x hx w h
  rw [if_neg hc, decide_eq_false hc] at this
  exact this
/-- What the readers of small things tell. -/
def PostT (B g : Nat) (w : World) (R : Rs Nat) (r : Ending) (w' : World) : Prop :=
  match R with
  | .ok t l => r = .returned (.int .u8 (t : Int)) ∧ Rd B w' g l ∧ But g w w'
  | .bad e p => r = PanW e p ∧ But g w w'

set_option maxRecDepth 100000 in
set_option maxHeartbeats 3200000 in
theorem typeWord_any {B : Nat} (g : Nat) (l : List Tk) (w : World) (h : Rd B w g l) : Calls Tryz.prog 94 #[.pointer (some ⟨g, 0, none⟩)] w (PostT B g w (typeR l)) := by
  by_cases c0 : (hdT l).text = [105, 110, 116]
  · have e : typeR l = .ok 1 l.tail := by unfold typeR; rw [if_pos c0]
    rw [e]
    clear e
    have T0 : Hid (∀ u, Rd B u g l → Calls Tryz.prog 55 #[.pointer (some ⟨g, 0, none⟩), .string ⟨#[105, 110, 116]⟩] u fun r w' => r = .returned (.bool true) ∧ Rd B w' g l.tail ∧ But g u w') := fun u hu => takes_yes g l ⟨#[105, 110, 116]⟩ (by decide) c0 u hu
    clear c0
    go_enter Tryz.func94, Tryz.ntmps94
    have C0 := T0.out _ h
    go_wp2_with (go_at_call 55; refine C0.mono ?_; rintro r w1 ⟨rfl, hR0, hb0⟩; refine Hid.out ?_)
    refine hidU ?_
    clear C0
    go_wp2_with fail
    go_ret
    exact ⟨rfl, hR0, (But.refl g w).trans hb0⟩
  by_cases c1 : (hdT l).text = [98, 111, 111, 108]
  · have e : typeR l = .ok 2 l.tail := by unfold typeR; rw [if_neg c0]; rw [if_pos c1]
    rw [e]
    clear e
    have T0 : Hid (∀ u, Rd B u g l → Calls Tryz.prog 55 #[.pointer (some ⟨g, 0, none⟩), .string ⟨#[105, 110, 116]⟩] u fun r w' => r = .returned (.bool false) ∧ Rd B w' g l ∧ But g u w') := fun u hu => takes_no g l ⟨#[105, 110, 116]⟩ (by decide) c0 u hu
    have T1 : Hid (∀ u, Rd B u g l → Calls Tryz.prog 55 #[.pointer (some ⟨g, 0, none⟩), .string ⟨#[98, 111, 111, 108]⟩] u fun r w' => r = .returned (.bool true) ∧ Rd B w' g l.tail ∧ But g u w') := fun u hu => takes_yes g l ⟨#[98, 111, 111, 108]⟩ (by decide) c1 u hu
    clear c0 c1
    go_enter Tryz.func94, Tryz.ntmps94
    have C0 := T0.out _ h
    go_wp2_with (go_at_call 55; refine C0.mono ?_; rintro r w1 ⟨rfl, hR0, hb0⟩; refine Hid.out ?_)
    refine hidU ?_
    clear C0
    have C1 := T1.out _ hR0
    go_wp2_with (go_at_call 55; refine C1.mono ?_; rintro r w2 ⟨rfl, hR1, hb1⟩; refine Hid.out ?_)
    refine hidU ?_
    clear C1
    go_wp2_with fail
    go_ret
    exact ⟨rfl, hR1, ((But.refl g w).trans hb0).trans hb1⟩
  by_cases c2 : (hdT l).text = [114, 101, 97, 108]
  · have e : typeR l = .ok 3 l.tail := by unfold typeR; rw [if_neg c0]; rw [if_neg c1]; rw [if_pos c2]
    rw [e]
    clear e
    have T0 : Hid (∀ u, Rd B u g l → Calls Tryz.prog 55 #[.pointer (some ⟨g, 0, none⟩), .string ⟨#[105, 110, 116]⟩] u fun r w' => r = .returned (.bool false) ∧ Rd B w' g l ∧ But g u w') := fun u hu => takes_no g l ⟨#[105, 110, 116]⟩ (by decide) c0 u hu
    have T1 : Hid (∀ u, Rd B u g l → Calls Tryz.prog 55 #[.pointer (some ⟨g, 0, none⟩), .string ⟨#[98, 111, 111, 108]⟩] u fun r w' => r = .returned (.bool false) ∧ Rd B w' g l ∧ But g u w') := fun u hu => takes_no g l ⟨#[98, 111, 111, 108]⟩ (by decide) c1 u hu
    have T2 : Hid (∀ u, Rd B u g l → Calls Tryz.prog 55 #[.pointer (some ⟨g, 0, none⟩), .string ⟨#[114, 101, 97, 108]⟩] u fun r w' => r = .returned (.bool true) ∧ Rd B w' g l.tail ∧ But g u w') := fun u hu => takes_yes g l ⟨#[114, 101, 97, 108]⟩ (by decide) c2 u hu
    clear c0 c1 c2
    go_enter Tryz.func94, Tryz.ntmps94
    have C0 := T0.out _ h
    go_wp2_with (go_at_call 55; refine C0.mono ?_; rintro r w1 ⟨rfl, hR0, hb0⟩; refine Hid.out ?_)
    refine hidU ?_
    clear C0
    have C1 := T1.out _ hR0
    go_wp2_with (go_at_call 55; refine C1.mono ?_; rintro r w2 ⟨rfl, hR1, hb1⟩; refine Hid.out ?_)
    refine hidU ?_
    clear C1
    have C2 := T2.out _ hR1
    go_wp2_with (go_at_call 55; refine C2.mono ?_; rintro r w3 ⟨rfl, hR2, hb2⟩; refine Hid.out ?_)
    refine hidU ?_
    clear C2
    go_wp2_with fail
    go_ret
    exact ⟨rfl, hR2, (((But.refl g w).trans hb0).trans hb1).trans hb2⟩
  have e : typeR l = .bad 4 (hdT l).place := by unfold typeR; rw [if_neg c0, if_neg c1, if_neg c2]
  rw [e]
  clear e
  have T0 : Hid (∀ u, Rd B u g l → Calls Tryz.prog 55 #[.pointer (some ⟨g, 0, none⟩), .string ⟨#[105, 110, 116]⟩] u fun r w' => r = .returned (.bool false) ∧ Rd B w' g l ∧ But g u w') := fun u hu => takes_no g l ⟨#[105, 110, 116]⟩ (by decide) c0 u hu
  have T1 : Hid (∀ u, Rd B u g l → Calls Tryz.prog 55 #[.pointer (some ⟨g, 0, none⟩), .string ⟨#[98, 111, 111, 108]⟩] u fun r w' => r = .returned (.bool false) ∧ Rd B w' g l ∧ But g u w') := fun u hu => takes_no g l ⟨#[98, 111, 111, 108]⟩ (by decide) c1 u hu
  have T2 : Hid (∀ u, Rd B u g l → Calls Tryz.prog 55 #[.pointer (some ⟨g, 0, none⟩), .string ⟨#[114, 101, 97, 108]⟩] u fun r w' => r = .returned (.bool false) ∧ Rd B w' g l ∧ But g u w') := fun u hu => takes_no g l ⟨#[114, 101, 97, 108]⟩ (by decide) c2 u hu
  have HN : Hid (∀ u, Rd B u g l → Calls Tryz.prog 60 #[.pointer (some ⟨g, 0, none⟩)] u fun r w' => r = PanW 4 (hdT l).place ∧ Below u.heap.size u w') := fun u hu => refuseNext_any g l u hu
  clear c0 c1 c2
  generalize (hdT l).place = p at HN ⊢
  go_enter Tryz.func94, Tryz.ntmps94
  have C0 := T0.out _ h
  go_wp2_with (go_at_call 55; refine C0.mono ?_; rintro r w1 ⟨rfl, hR0, hb0⟩; refine Hid.out ?_)
  refine hidU ?_
  clear C0
  have C1 := T1.out _ hR0
  go_wp2_with (go_at_call 55; refine C1.mono ?_; rintro r w2 ⟨rfl, hR1, hb1⟩; refine Hid.out ?_)
  refine hidU ?_
  clear C1
  have C2 := T2.out _ hR1
  go_wp2_with (go_at_call 55; refine C2.mono ?_; rintro r w3 ⟨rfl, hR2, hb2⟩; refine Hid.out ?_)
  refine hidU ?_
  clear C2
  have C3 := HN.out _ hR2
  go_wp2_with (go_at_call 60; refine C3.mono ?_; rintro r w4 ⟨hr, hb4⟩; unfold PanW at hr; subst hr)
  exact ⟨rfl, rfl, ((((But.refl g w).trans hb0).trans hb1).trans hb2).trans (But.of_below hb4)⟩

set_option maxRecDepth 100000 in
set_option maxHeartbeats 1600000 in
theorem signless_any (t : Tk) (w : World) : Calls Tryz.prog 127 #[.agg t.cells.toArray] w fun r w' => r = .returned (.bool (signlessT t)) ∧ Below w.heap.size w w' := by
  obtain ⟨K, T, p, b⟩ := t
  obtain ⟨R, hR⟩ : ∃ R, Hid (R = signlessT ⟨K, T, p, b⟩) := ⟨_, (rfl : signlessT ⟨K, T, p, b⟩ = _)⟩
  rw [← hR.out]
  show Calls Tryz.prog 127 #[.agg (tok5 K ⟨T.toArray⟩ p (valT K) b).toArray] w fun r w' => r = .returned (.bool R) ∧ Below w.heap.size w w'
  generalize valT K = vt
  by_cases h1 : K = 1
  · have e1 : ((K : Int) == 1) = true := by rw [beq_iff_eq]; omega
    by_cases h2 : T = [105, 110, 102]
    · have hs : (T == [105, 110, 102]) = true := by rw [beq_iff_eq]; exact h2
      have hRf : R = false := by rw [hR.out]; simp [signlessT, h1, h2]
      subst hRf
      clear hR h1 h2
      go_enter Tryz.func127, Tryz.ntmps127
      go_wp2_with (first
        | ((with_reducible show wpList _ _ _ _ _ _); refine wpList_box_at rfl 64 (.tmp 0) rfl (tok5 K ⟨T.toArray⟩ p vt b) rfl ?_; intro w1 hA1 hb1 hs1; clear hs1; obtain ⟨a0, a1, -, -, -⟩ := tk5_cells hA1; clear hA1; refine Hid.out ?_))
      refine hidU ?_
      go_wp2
      go_ret
      exact ⟨rfl, hb1⟩
    · have hs : (T == [105, 110, 102]) = false := by rw [beq_eq_false_iff_ne]; exact h2
      have hRf : R = true := by rw [hR.out]; simp [signlessT, h1, h2]
      subst hRf
      clear hR h1 h2
      go_enter Tryz.func127, Tryz.ntmps127
      go_wp2_with (first
        | ((with_reducible show wpList _ _ _ _ _ _); refine wpList_box_at rfl 64 (.tmp 0) rfl (tok5 K ⟨T.toArray⟩ p vt b) rfl ?_; intro w1 hA1 hb1 hs1; clear hs1; obtain ⟨a0, a1, -, -, -⟩ := tk5_cells hA1; clear hA1; refine Hid.out ?_))
      refine hidU ?_
      go_wp2
      go_ret
      exact ⟨rfl, hb1⟩
  · have e1 : ((K : Int) == 1) = false := by rw [beq_eq_false_iff_ne]; omega
    have hRf : R = false := by rw [hR.out]; simp [signlessT, h1]
    subst hRf
    clear hR h1
    go_enter Tryz.func127, Tryz.ntmps127
    go_wp2_with (first
      | ((with_reducible show wpList _ _ _ _ _ _); refine wpList_box_at rfl 64 (.tmp 0) rfl (tok5 K ⟨T.toArray⟩ p vt b) rfl ?_; intro w1 hA1 hb1 hs1; clear hs1; obtain ⟨a0, a1, -, -, -⟩ := tk5_cells hA1; clear hA1; refine Hid.out ?_))
    refine hidU ?_
    go_wp2
    go_ret
    exact ⟨rfl, hb1⟩
end Go.Proofs.YtjgggmjjikopeaaGreatDoor
