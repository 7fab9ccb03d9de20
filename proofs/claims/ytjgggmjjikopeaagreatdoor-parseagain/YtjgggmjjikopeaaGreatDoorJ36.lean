/- Joined texts of the proof. -/
import Derived.Test.YtjgggmjjikopeaaGreatDoorJ32
import Derived.Test.YtjgggmjjikopeaaGreatDoorJ25

/- Reading programs, as plain functions on lists of tokens. -/
namespace Go.Proofs.YtjgggmjjikopeaaGreatDoor
set_option linter.unusedVariables false

/-- One behind the other. -/
def Rs.bind {α β : Type} (R : Rs α) (f : α → List Tk → Rs β) : Rs β :=
  match R with
  | .ok v r => f v r
  | .bad e p => .bad e p
theorem Rs.bind_ok {α β : Type} (v : α) (r : List Tk) (f : α → List Tk → Rs β) : (Rs.ok v r).bind f = f v r := rfl
theorem Rs.bind_bind {α β γ : Type} (R : Rs α) (f : α → List Tk → Rs β) (g : β → List Tk → Rs γ) : (R.bind f).bind g = R.bind fun v r => (f v r).bind g := by cases R <;> rfl
theorem Rs.Left.mono {α : Type} {R : Rs α} {n m : Nat} (h : R.Left n) (hm : n ≤ m) : R.Left m := by
  cases R with
  | ok v r => exact Nat.lt_of_lt_of_le h hm
  | bad e p => trivial
theorem Rs.Left.bind {α β : Type} {R : Rs α} {f : α → List Tk → Rs β} {n : Nat} (h : R.Left n) (hf : ∀ v r, r.length < n → (f v r).Left n) : (R.bind f).Left n := by
  cases R with
  | ok v r => exact hf v r h
  | bad e p => trivial

/-- The reader of expressions comes to an end in so many rounds. -/
theorem totalF (N : Nat) : ∀ l : List Tk, l.length ≤ N →
    (∀ d, ∃ r, operF (4 * N + 2) d l = some r ∧ r.Left l.length) ∧
    (∀ d, ∃ r, brkF (4 * N + 1) d l = some r ∧ r.Left l.length) ∧
    (∀ n d, 1 ≤ n → ∃ r, rowF (4 * N + 3) n d l = some r ∧ r.Left l.length) ∧
    (∀ n m d x, 1 ≤ n → ∃ r, loopF (4 * N + 1) n m d x l = some r ∧ r.Left (l.length + 1)) := by
  induction N with
  | zero =>
    intro l hl
    obtain rfl : l = [] := List.eq_nil_of_length_eq_zero (by omega)
    have ho : ∀ d, operF 2 d [] = some (.bad 4 0) := fun d => by rw [operF, if_pos ⟨by decide, by decide⟩]; rfl
    refine ⟨fun d => ⟨_, ho d, trivial⟩, fun d => ⟨.bad 4 0, by rw [brkF]; rfl, trivial⟩, fun n d _ => ⟨.bad 4 0, ?_, trivial⟩, fun n m d x hn => ⟨.ok x [], ?_, by simp [Rs.Left]⟩⟩
    · rw [rowF, ho]
    · rw [loopF, if_pos (.inl (by show 0 < n; omega))]
  | succ N ih =>
    intro l hl
    have hB : ∀ d, ∃ r, brkF (4 * (N + 1) + 1) d l = some r ∧ r.Left l.length := by
      intro d
      have hm := mustR_left (x := [40]) (l := l) (by decide)
      cases h1 : mustR [40] l with
      | bad e p => exact ⟨.bad e p, by rw [brkF, h1], trivial⟩
      | ok u r =>
        rw [h1] at hm
        have hm : r.length < l.length := hm
        obtain ⟨y, hy, hl2⟩ := (ih r (by omega)).2.2.1 1 (d + 1) (Nat.le_refl _)
        have hy := rowF_le hy (show 4 * N + 3 ≤ 4 * (N + 1) by omega)
        cases y with
        | bad e p => exact ⟨.bad e p, by rw [brkF, h1]; dsimp only; rw [hy], trivial⟩
        | ok y r2 =>
          have hl2 : r2.length < r.length := hl2
          have hm2 := mustR_left (x := [41]) (l := r2) (by decide)
          cases h2 : mustR [41] r2 with
          | bad e p => exact ⟨.bad e p, by rw [brkF, h1]; dsimp only; rw [hy]; dsimp only; rw [h2], trivial⟩
          | ok u r3 =>
            rw [h2] at hm2
            have hm2 : r3.length < r2.length := hm2
            exact ⟨.ok y r3, by rw [brkF, h1]; dsimp only; rw [hy]; dsimp only; rw [h2], by show r3.length < _; omega⟩
    have hO : ∀ d, ∃ r, operF (4 * (N + 1) + 2) d l = some r ∧ r.Left l.length := by
      intro d
      by_cases c1 : openOf (hdT l).text = 0 ∧ (hdT l).text ≠ [40]
      · exact ⟨leafR l, by rw [operF, if_pos c1], leafR_left l⟩
      · have ht := tail_lt (open_nil c1)
        by_cases c2 : 32 ≤ d
        · exact ⟨.bad 160 (hdT l).place, by rw [operF, if_neg c1, if_pos c2], trivial⟩
        · by_cases c3 : openOf (hdT l).text = 16 ∨ openOf (hdT l).text = 17
          · obtain ⟨y, hy, hl2⟩ := (ih l.tail (by omega)).1 (d + 1)
            have hy := operF_le hy (show 4 * N + 2 ≤ 4 * (N + 1) + 1 by omega)
            cases y with
            | bad e p => exact ⟨.bad e p, by rw [operF, if_neg c1, if_neg c2, if_pos c3, hy], trivial⟩
            | ok y r2 => exact ⟨_, by rw [operF, if_neg c1, if_neg c2, if_pos c3, hy], nodeR_left (by have : r2.length < l.tail.length := hl2; omega)⟩
          · by_cases c4 : openOf (hdT l).text = 0
            · obtain ⟨y, hy, hl2⟩ := hB d
              exact ⟨y, by rw [operF, if_neg c1, if_neg c2, if_neg c3, if_pos c4, hy], hl2⟩
            · obtain ⟨y, hy, hl2⟩ := (ih l.tail (by omega)).2.1 d
              have hy := brkF_le hy (show 4 * N + 1 ≤ 4 * (N + 1) + 1 by omega)
              cases y with
              | bad e p => exact ⟨.bad e p, by rw [operF, if_neg c1, if_neg c2, if_neg c3, if_neg c4, hy], trivial⟩
              | ok y r2 => exact ⟨_, by rw [operF, if_neg c1, if_neg c2, if_neg c3, if_neg c4, hy], nodeR_left (by have : r2.length < l.tail.length := hl2; omega)⟩
    refine ⟨hO, hB, fun n d hn => ?_, fun n m d x hn => ?_⟩
    · obtain ⟨y, hy, hl2⟩ := hO d
      cases y with
      | bad e p => exact ⟨.bad e p, by rw [rowF, hy], trivial⟩
      | ok y r2 =>
        have hl2 : r2.length < l.length := hl2
        obtain ⟨z, hz, hl3⟩ := (ih r2 (by omega)).2.2.2 n 5 d y hn
        refine ⟨z, ?_, ?_⟩
        · rw [rowF, hy]
          exact loopF_le hz (by omega)
        · cases z with
          | bad e p => trivial
          | ok z r3 => show r3.length < _; have : r3.length < r2.length + 1 := hl3; omega
    · by_cases c1 : (bindOf (hdT l).text).2 < n ∨ m < (bindOf (hdT l).text).2
      · exact ⟨.ok x l, by rw [loopF, if_pos c1], by simp [Rs.Left]⟩
      · have ht := tail_lt (bind_nil (l := l) (by omega))
        obtain ⟨y, hy, hl2⟩ := (ih l.tail (by omega)).2.2.1 ((bindOf (hdT l).text).2 + 1) d (by omega)
        have hy := rowF_le hy (show 4 * N + 3 ≤ 4 * (N + 1) by omega)
        cases y with
        | bad e p => exact ⟨.bad e p, by rw [loopF, if_neg c1, hy], trivial⟩
        | ok y r2 =>
          have hl2 : r2.length < l.tail.length := hl2
          cases hn2 : nodeR (hdT l).place (bindOf (hdT l).text).1 [x, y] r2 with
          | bad e p => exact ⟨.bad e p, by rw [loopF, if_neg c1, hy]; dsimp only; rw [hn2], trivial⟩
          | ok z r3 =>
            have h3 : r3 = r2 := by
              unfold nodeR at hn2
              split at hn2
              · cases hn2
              · cases hn2; rfl
            subst h3
            obtain ⟨u, hu, hl4⟩ := (ih r3 (by omega)).2.2.2 n (mostOf (bindOf (hdT l).text).2) d z hn
            refine ⟨u, ?_, ?_⟩
            · rw [loopF, if_neg c1, hy]
              dsimp only
              rw [hn2]
              exact loopF_le hu (by omega)
            · cases u with
              | bad e p => trivial
              | ok u r5 => show r5.length < _; have : r5.length < r3.length + 1 := hl4; omega

/-- An expression of a statement. -/
def exprR (l : List Tk) : Rs Ex := (rowF (4 * l.length + 3) 1 0 l).getD (.bad 0 0)
theorem exprR_row (l : List Tk) : rowF (4 * l.length + 3) 1 0 l = some (exprR l) := by
  obtain ⟨r, h, -⟩ := (totalF l.length l (Nat.le_refl _)).2.2.1 1 0 (Nat.le_refl _)
  unfold exprR
  rw [h]
  rfl
theorem exprR_left (l : List Tk) : (exprR l).Left l.length := by
  obtain ⟨r, h, h2⟩ := (totalF l.length l (Nat.le_refl _)).2.2.1 1 0 (Nat.le_refl _)
  unfold exprR
  rw [h]
  exact h2

theorem nameR_left (l : List Tk) : (nameR l).Left l.length := by
  unfold nameR
  split
  · next h => exact tail_lt (nm_ne h)
  · trivial

/-- A type. -/
def typeR (l : List Tk) : Rs Nat :=
  if (hdT l).text = [105, 110, 116] then .ok 1 l.tail else if (hdT l).text = [98, 111, 111, 108] then .ok 2 l.tail else if (hdT l).text = [114, 101, 97, 108] then .ok 3 l.tail else .bad 4 (hdT l).place
theorem typeR_left (l : List Tk) : (typeR l).Left l.length := by
  unfold typeR
  split
  · next h => exact tail_lt (by rw [h]; decide)
  · split
    · next h => exact tail_lt (by rw [h]; decide)
    · split
      · next h => exact tail_lt (by rw [h]; decide)
      · trivial

/-- A literal ahead of which no sign stands. -/
def signlessT (t : Tk) : Bool := decide (t.kind = 1) && !decide (t.text = [105, 110, 102])
/-- The other sign. -/
def negV (v : Nat × Nat) : Nat × Nat := if v.1 = 1 then (1, (18446744073709551616 - v.2) % 18446744073709551616) else (3, fneg v.2)
/-- A value behind its sign. -/
def valueM (m : Bool) (t p : Nat) (l : List Tk) : Rs (Nat × Nat) :=
  match litTk (hdT l) with
  | none => .bad 4 (hdT l).place
  | some v => if m && signlessT (hdT l) then .bad 4 (hdT l).place else if v.1 = t then .ok (if m then negV v else v) l.tail else .bad 9 p
/-- A value of a type. -/
def valueR (t : Nat) (l : List Tk) : Rs (Nat × Nat) := if (hdT l).text = [45] then valueM true t (hdT l).place l.tail else valueM false t (hdT l).place l
theorem valueM_left (m : Bool) (t p : Nat) (l : List Tk) : (valueM m t p l).Left l.length := by
  cases l with
  | nil => exact trivial
  | cons a r =>
    unfold valueM
    split
    · trivial
    · split
      · trivial
      · split
        · simp [Rs.Left]
        · trivial
theorem tail_le (l : List Tk) : l.tail.length ≤ l.length := by simp
theorem valueR_left (t : Nat) (l : List Tk) : (valueR t l).Left l.length := by
  unfold valueR
  split
  · exact (valueM_left _ _ _ _).mono (tail_le l)
  · exact valueM_left _ _ _ _
/-- What a variable is at first. -/
def initR (t : Nat) (l : List Tk) : Rs (Nat × Nat) := if (hdT l).text = [61] then valueR t l.tail else .ok (t, 0) l
theorem initR_left (t : Nat) (l : List Tk) : (initR t l).Left (l.length + 1) := by
  unfold initR
  split
  · exact (valueR_left _ _).mono (by have := tail_le l; omega)
  · simp [Rs.Left]
/-- A variable behind its first word. -/
def variableR (l : List Tk) : Rs Vr := (nameR l).bind fun x r => (typeR r).bind fun t r => (initR t r).bind fun v r => (mustR [59] r).bind fun _ r => .ok ⟨x, v.1, v.2⟩ r
theorem variableR_left (l : List Tk) : (variableR l).Left l.length := by
  refine (nameR_left l).bind fun x r h1 => ((typeR_left r).mono (Nat.le_of_lt h1)).bind fun t r2 h2 => ?_
  refine ((initR_left t r2).mono (show r2.length + 1 ≤ l.length by omega)).bind fun v r3 h3 => ?_
  exact ((mustR_left (by decide)).mono (Nat.le_of_lt h3)).bind fun _ r4 h4 => h4

/-- A statement without blocks. -/
def simpleR (l : List Tk) : Rs St :=
  if (hdT l).text = [108, 111, 99, 107] then (nameR l.tail).bind fun x r => .ok (.mk 2 x noE [] []) r
  else if (hdT l).text = [117, 110, 108, 111, 99, 107] then (nameR l.tail).bind fun x r => .ok (.mk 3 x noE [] []) r
  else if (hdT l).text = [97, 115, 115, 101, 114, 116] then (exprR l.tail).bind fun e r => .ok (.mk 4 [] e [] []) r
  else if (hdT l).text = [115, 107, 105, 112] then .ok (.mk 7 [] noE [] []) l.tail
  else (nameR l).bind fun x r => (mustR [61] r).bind fun _ r => (exprR r).bind fun e r => .ok (.mk 1 x e [] []) r

mutual
/-- A statement. -/
def stmtR : Nat → Nat → List Tk → Rs St
  | 0, _, _ => .bad 0 0
  | f + 1, d, l =>
    if (hdT l).text = [105, 102] then (exprR l.tail).bind fun e r => (blockR f d r).bind fun b r => (elseR f d r).bind fun c r => .ok (.mk 5 [] e b c) r
    else if (hdT l).text = [119, 104, 105, 108, 101] then (exprR l.tail).bind fun e r => (blockR f d r).bind fun b r => .ok (.mk 6 [] e b []) r
    else (simpleR l).bind fun s r => (mustR [59] r).bind fun _ r => .ok s r
/-- What stands behind an If's block. -/
def elseR : Nat → Nat → List Tk → Rs (List St)
  | 0, _, _ => .bad 0 0
  | f + 1, d, l => if (hdT l).text = [101, 108, 115, 101] then blockR f d l.tail else .ok [] l
/-- A block. -/
def blockR : Nat → Nat → List Tk → Rs (List St)
  | 0, _, _ => .bad 0 0
  | f + 1, d, l => (mustR [123] l).bind fun _ r => if 32 ≤ d then .bad 160 (hdT l).place else stmtsR f (d + 1) r
/-- Statements, and the bracket behind them. -/
def stmtsR : Nat → Nat → List Tk → Rs (List St)
  | 0, _, _ => .bad 0 0
  | f + 1, d, l => if (hdT l).text = [125] then .ok [] l.tail else (stmtR f d l).bind fun s r => (stmtsR f d r).bind fun ss r => .ok (s :: ss) r
end

/-- Locals. -/
def localsR : Nat → List Tk → Rs (List Vr)
  | 0, _ => .bad 0 0
  | f + 1, l => if (hdT l).text = [108, 111, 99, 97, 108] then (variableR l.tail).bind fun v r => (localsR f r).bind fun vs r => .ok (v :: vs) r else .ok [] l
/-- A thread behind its first word. -/
def threadR (l : List Tk) : Rs Th := (nameR l).bind fun x r => (mustR [123] r).bind fun _ r => (localsR (r.length + 1) r).bind fun vs r => (stmtsR (4 * r.length + 4) 0 r).bind fun b r => .ok ⟨x, vs, b⟩ r
/-- Variables and mutexes. -/
def declsR : Nat → List Tk → Rs (List Vr × List (List UInt8))
  | 0, _ => .bad 0 0
  | f + 1, l =>
    if (hdT l).text = [115, 104, 97, 114, 101, 100] then (variableR l.tail).bind fun v r => (declsR f r).bind fun x r => .ok (v :: x.1, x.2) r
    else if (hdT l).text = [109, 117, 116, 101, 120] then (nameR l.tail).bind fun m r => (mustR [59] r).bind fun _ r => (declsR f r).bind fun x r => .ok (x.1, m :: x.2) r
    else .ok ([], []) l
/-- Threads. -/
def threadsR : Nat → List Tk → Rs (List Th)
  | 0, _ => .bad 0 0
  | f + 1, l => if (hdT l).text = [116, 104, 114, 101, 97, 100] then (threadR l.tail).bind fun t r => (threadsR f r).bind fun ts r => .ok (t :: ts) r else .ok [] l
/-- A program. -/
def programR (l : List Tk) : Rs Pg := (declsR (l.length + 1) l).bind fun x r => (threadsR (r.length + 1) r).bind fun ts r => .ok ⟨x.1, x.2, ts⟩ r

theorem simpleR_left (l : List Tk) : (simpleR l).Left l.length := by
  have ht := tail_le l
  unfold simpleR
  split
  · exact ((nameR_left l.tail).mono ht).bind fun x r h => h
  · split
    · exact ((nameR_left l.tail).mono ht).bind fun x r h => h
    · split
      · exact ((exprR_left l.tail).mono ht).bind fun x r h => h
      · split
        · next h => exact tail_lt (by rw [h]; decide)
        · exact (nameR_left l).bind fun x r h1 => ((mustR_left (by decide)).mono (Nat.le_of_lt h1)).bind fun _ r2 h2 => ((exprR_left r2).mono (Nat.le_of_lt h2)).bind fun e r3 h3 => h3

theorem stmt_left (f : Nat) : ∀ (d : Nat) (l : List Tk), (stmtR f d l).Left l.length ∧ (elseR f d l).Left (l.length + 1) ∧ (blockR f d l).Left l.length ∧ (stmtsR f d l).Left l.length := by
  induction f with
  | zero => exact fun d l => ⟨by rw [stmtR]; trivial, by rw [elseR]; trivial, by rw [blockR]; trivial, by rw [stmtsR]; trivial⟩
  | succ f ih =>
    intro d l
    have ht := tail_le l
    refine ⟨?_, ?_, ?_, ?_⟩
    · rw [stmtR]
      split
      · refine ((exprR_left l.tail).mono ht).bind fun e r h1 => (((ih d r).2.2.1).mono (Nat.le_of_lt h1)).bind fun b r2 h2 => ?_
        exact (((ih d r2).2.1).mono (by omega)).bind fun c r3 h3 => h3
      · split
        · exact ((exprR_left l.tail).mono ht).bind fun e r h1 => (((ih d r).2.2.1).mono (Nat.le_of_lt h1)).bind fun b r2 h2 => h2
        · exact (simpleR_left l).bind fun s r h1 => ((mustR_left (by decide)).mono (Nat.le_of_lt h1)).bind fun _ r2 h2 => h2
    · rw [elseR]
      split
      · exact ((ih d l.tail).2.2.1).mono (by omega)
      · exact Nat.lt_succ_self _
    · rw [blockR]
      refine (mustR_left (by decide)).bind fun _ r h1 => ?_
      split
      · trivial
      · exact ((ih (d + 1) r).2.2.2).mono (Nat.le_of_lt h1)
    · rw [stmtsR]
      split
      · next h => exact tail_lt (by rw [h]; decide)
      · exact ((ih d l).1).bind fun s r h1 => (((ih d r).2.2.2).mono (Nat.le_of_lt h1)).bind fun ss r2 h2 => h2
theorem localsR_left (f : Nat) : ∀ l : List Tk, (localsR f l).Left (l.length + 1) := by
  induction f with
  | zero => exact fun l => trivial
  | succ f ih =>
    intro l
    have ht := tail_le l
    rw [localsR]
    split
    · exact ((variableR_left l.tail).mono (by omega)).bind fun v r h1 => ((ih r).mono (by omega)).bind fun vs r2 h2 => h2
    · exact Nat.lt_succ_self _
theorem threadR_left (l : List Tk) : (threadR l).Left l.length := by
  refine (nameR_left l).bind fun x r h1 => ((mustR_left (by decide)).mono (Nat.le_of_lt h1)).bind fun _ r2 h2 => ((localsR_left _ r2).mono (by omega)).bind fun vs r3 h3 => ?_
  exact (((stmt_left _ 0 r3).2.2.2).mono (Nat.le_of_lt h3)).bind fun b r4 h4 => h4
end Go.Proofs.YtjgggmjjikopeaaGreatDoor

/- The reader of programs: types, signs. -/
namespace Go.Proofs.YtjgggmjjikopeaaGreatDoor
open Go.RowKit
set_option linter.unusedVariables false

theorem takes_yes {B : Nat} (g : Nat) (l : List Tk) (x : ByteArray) (hx : bytes x ≠ []) (hc : (hdT l).text = bytes x) (w : World) (h : Rd B w g l) :
    Calls Tryz.prog 55 #[.pointer (some ⟨g, 0, none⟩), .string x] w fun r w' => r = .returned (.bool true) ∧ Rd B w' g l.tail ∧ But g w w' := by
  have := takes_any g l x hx w h
  rw [if_pos hc, decide_eq_true hc] at this
  exact this
theorem takes_no {B : Nat} (g : Nat) (l : List Tk) (x : ByteArray) (hx : bytes x ≠ []) (hc : (hdT l).text ≠ bytes x) (w : World) (h : Rd B w g l) :
    Calls Tryz.prog 55 #[.pointer (some ⟨g, 0, none⟩), .string x] w fun r w' => r = .returned (.bool false) ∧ Rd B w' g l ∧ But g w w' := by
  have := takes_any g l x hx w h
  rw [if_neg hc, decide_eq_false hc] at this
  exact this
/-- What the readers of small things tell. -/
def PostT (B g : Nat) (w : World) (R : Rs Nat) (r : Ending) (w' : World) : Prop :=
  match R with
  | .ok t l => r = .returned (.int .u8 (t : Int)) ∧ Rd B w' g l ∧ But g w w'
  | .bad e p => r = PanW e p ∧ But g w w'

set_option maxRecDepth 100000 in
set_option maxHeartbeats 3200000 in
theorem typeWord_any {B : Nat} (g : Nat) (l : List Tk) (w : World) (h : Rd B w g l) : Calls Tryz.prog 94 #[.pointer (some ⟨g, 0, none⟩)] w (PostT B g w (typeR l)) := by
  by_cases c0 : (hdT l).text = [105, 110, 116]
  · have e : typeR l = .ok 1 l.tail := by unfold typeR; rw [if_pos c0]
    rw [e]
    clear e
    have T0 : Hid (∀ u, Rd B u g l → Calls Tryz.prog 55 #[.pointer (some ⟨g, 0, none⟩), .string ⟨#[105, 110, 116]⟩] u fun r w' => r = .returned (.bool true) ∧ Rd B w' g l.tail ∧ But g u w') := fun u hu => takes_yes g l ⟨#[105, 110, 116]⟩ (by decide) c0 u hu
    clear c0
    go_enter Tryz.func94, Tryz.ntmps94
    have C0 := T0.out _ h
    go_wp2_with (go_at_call 55; refine C0.mono ?_; rintro r w1 ⟨rfl, hR0, hb0⟩; refine Hid.out ?_)
    refine hidU ?_
    clear C0
    go_wp2_with fail
    go_ret
    exact ⟨rfl, hR0, (But.refl g w).trans hb0⟩
  by_cases c1 : (hdT l).text = [98, 111, 111, 108]
  · have e : typeR l = .ok 2 l.tail := by unfold typeR; rw [if_neg c0]; rw [if_pos c1]
    rw [e]
    clear e
    have T0 : Hid (∀ u, Rd B u g l → Calls Tryz.prog 55 #[.pointer (some ⟨g, 0, none⟩), .string ⟨#[105, 110, 116]⟩] u fun r w' => r = .returned (.bool false) ∧ Rd B w' g l ∧ But g u w') := fun u hu => takes_no g l ⟨#[105, 110, 116]⟩ (by decide) c0 u hu
    have T1 : Hid (∀ u, Rd B u g l → Calls Tryz.prog 55 #[.pointer (some ⟨g, 0, none⟩), .string ⟨#[98, 111, 111, 108]⟩] u fun r w' => r = .returned (.bool true) ∧ Rd B w' g l.tail ∧ But g u w') := fun u hu => takes_yes g l ⟨#[98, 111, 111, 108]⟩ (by decide) c1 u hu
    clear c0 c1
    go_enter Tryz.func94, Tryz.ntmps94
    have C0 := T0.out _ h
    go_wp2_with (go_at_call 55; refine C0.mono ?_; rintro r w1 ⟨rfl, hR0, hb0⟩; refine Hid.out ?_)
    refine hidU ?_
    clear C0
    have C1 := T1.out _ hR0
    go_wp2_with (go_at_call 55; refine C1.mono ?_; rintro r w2 ⟨rfl, hR1, hb1⟩; refine Hid.out ?_)
    refine hidU ?_
    clear C1
    go_wp2_with fail
    go_ret
    exact ⟨rfl, hR1, ((But.refl g w).trans hb0).trans hb1⟩
  by_cases c2 : (hdT l).text = [114, 101, 97, 108]
  · have e : typeR l = .ok 3 l.tail := by unfold typeR; rw [if_neg c0]; rw [if_neg c1]; rw [if_pos c2]
    rw [e]
    clear e
    have T0 : Hid (∀ u, Rd B u g l → Calls Tryz.prog 55 #[.pointer (some ⟨g, 0, none⟩), .string ⟨#[105, 110, 116]⟩] u fun r w' => r = .returned (.bool false) ∧ Rd B w' g l ∧ But g u w') := fun u hu => takes_no g l ⟨#[105, 110, 116]⟩ (by decide) c0 u hu
    have T1 : Hid (∀ u, Rd B u g l → Calls Tryz.prog 55 #[.pointer (some ⟨g, 0, none⟩), .string ⟨#[98, 111, 111, 108]⟩] u fun r w' => r = .returned (.bool false) ∧ Rd B w' g l ∧ But g u w') := fun u hu => takes_no g l ⟨#[98, 111, 111, 108]⟩ (by decide) c1 u hu
    have T2 : Hid (∀ u, Rd B u g l → Calls Tryz.prog 55 #[.pointer (some ⟨g, 0, none⟩), .string ⟨#[114, 101, 97, 108]⟩] u fun r w' => r = .returned (.bool true) ∧ Rd B w' g l.tail ∧ But g u w') := fun u hu => takes_yes g l ⟨#[114, 101, 97, 108]⟩ (by decide) c2 u hu
    clear c0 c1 c2
    go_enter Tryz.func94, Tryz.ntmps94
    have C0 := T0.out _ h
    go_wp2_with (go_at_call 55; refine C0.mono ?_; rintro r w1 ⟨rfl, hR0, hb0⟩; refine Hid.out ?_)
    refine hidU ?_
    clear C0
    have C1 := T1.out _ hR0
    go_wp2_with (go_at_call 55; refine C1.mono ?_; rintro r w2 ⟨rfl, hR1, hb1⟩; refine Hid.out ?_)
    refine hidU ?_
    clear C1
    have C2 := T2.out _ hR1
    go_wp2_with (go_at_call 55; refine C2.mono ?_; rintro r w3 ⟨rfl, hR2, hb2⟩; refine Hid.out ?_)
    refine hidU ?_
    clear C2
    go_wp2_with fail
    go_ret
    exact ⟨rfl, hR2, (((But.refl g w).trans hb0).trans hb1).trans hb2⟩
  have e : typeR l = .bad 4 (hdT l).place := by unfold typeR; rw [if_neg c0, if_neg c1, if_neg c2]
  rw [e]
  clear e
  have T0 : Hid (∀ u, Rd B u g l → Calls Tryz.prog 55 #[.pointer (some ⟨g, 0, none⟩), .string ⟨#[105, 110, 116]⟩] u fun r w' => r = .returned (.bool false) ∧ Rd B w' g l ∧ But g u w') := fun u hu => takes_no g l ⟨#[105, 110, 116]⟩ (by decide) c0 u hu
  have T1 : Hid (∀ u, Rd B u g l → Calls Tryz.prog 55 #[.pointer (some ⟨g, 0, none⟩), .string ⟨#[98, 111, 111, 108]⟩] u fun r w' => r = .returned (.bool false) ∧ Rd B w' g l ∧ But g u w') := fun u hu => takes_no g l ⟨#[98, 111, 111, 108]⟩ (by decide) c1 u hu
  have T2 : Hid (∀ u, Rd B u g l → Calls Tryz.prog 55 #[.pointer (some ⟨g, 0, none⟩), .string ⟨#[114, 101, 97, 108]⟩] u fun r w' => r = .returned (.bool false) ∧ Rd B w' g l ∧ But g u w') := fun u hu => takes_no g l ⟨#[114, 101, 97, 108]⟩ (by decide) c2 u hu
  have HN : Hid (∀ u, Rd B u g l → Calls Tryz.prog 60 #[.pointer (some ⟨g, 0, none⟩)] u fun r w' => r = PanW 4 (hdT l).place ∧ Below u.heap.size u w') := fun u hu => refuseNext_any g l u hu
  clear c0 c1 c2
  generalize (hdT l).place = p at HN ⊢
  go_enter Tryz.func94, Tryz.ntmps94
  have C0 := T0.out _ h
  go_wp2_with (go_at_call 55; refine C0.mono ?_; rintro r w1 ⟨rfl, hR0, hb0⟩; refine Hid.out ?_)
  refine hidU ?_
  clear C0
  have C1 := T1.out _ hR0
  go_wp2_with (go_at_call 55; refine C1.mono ?_; rintro r w2 ⟨rfl, hR1, hb1⟩; refine Hid.out ?_)
  refine hidU ?_
  clear C1
  have C2 := T2.out _ hR1
  go_wp2_with (go_at_call 55; refine C2.mono ?_; rintro r w3 ⟨rfl, hR2, hb2⟩; refine Hid.out ?_)
  refine hidU ?_
  clear C2
  have C3 := HN.out _ hR2
  go_wp2_with (go_at_call 60; refine C3.mono ?_; rintro r w4 ⟨hr, hb4⟩; unfold PanW at hr; subst hr)
  exact ⟨rfl, rfl, ((((But.refl g w).trans hb0).trans hb1).trans hb2).trans (But.of_below hb4)⟩

set_option maxRecDepth 100000 in
set_option maxHeartbeats 1600000 in
theorem signless_any (t : Tk) (w : World) : Calls Tryz.prog 127 #[.agg t.cells.toArray] w fun r w' => r = .returned (.bool (signlessT t)) ∧ Below w.heap.size w w' := by
  obtain ⟨K, T, p, b⟩ := t
  obtain ⟨R, hR⟩ : ∃ R, Hid (R = signlessT ⟨K, T, p, b⟩) := ⟨_, (rfl : signlessT ⟨K, T, p, b⟩ = _)⟩
  rw [← hR.out]
  show Calls Tryz.prog 127 #[.agg (tok5 K ⟨T.toArray⟩ p (valT K) b).toArray] w fun r w' => r = .returned (.bool R) ∧ Below w.heap.size w w'
  generalize valT K = vt
  by_cases h1 : K = 1
  · have e1 : ((K : Int) == 1) = true := by rw [beq_iff_eq]; omega
    by_cases h2 : T = [105, 110, 102]
    focus
      have hs : (T == [105, 110, 102]) = true := by rw [beq_iff_eq]; exact h2
      have hRf : R = false := by rw [hR.out]; simp [signlessT, h1, h2]
    rotate_left
    focus
      have hs : (T == [105, 110, 102]) = false := by rw [beq_eq_false_iff_ne]; exact h2
      have hRf : R = true := by rw [hR.out]; simp [signlessT, h1, h2]
    rotate_left
    all_goals
      subst hRf
      clear hR h1 h2
      go_enter Tryz.func127, Tryz.ntmps127
      go_wp2_with (first
        | ((with_reducible show wpList _ _ _ _ _ _); refine wpList_box_at rfl 64 (.tmp 0) rfl (tok5 K ⟨T.toArray⟩ p vt b) rfl ?_; intro w1 hA1 hb1 hs1; clear hs1; obtain ⟨a0, a1, -, -, -⟩ := tk5_cells hA1; clear hA1; refine Hid.out ?_))
      refine hidU ?_
      go_wp2
      go_ret
      exact ⟨rfl, hb1⟩
  · have e1 : ((K : Int) == 1) = false := by rw [beq_eq_false_iff_ne]; omega
    have hRf : R = false := by rw [hR.out]; simp [signlessT, h1]
    subst hRf
    clear hR h1
    go_enter Tryz.func127, Tryz.ntmps127
    go_wp2_with (first
      | ((with_reducible show wpList _ _ _ _ _ _); refine wpList_box_at rfl 64 (.tmp 0) rfl (tok5 K ⟨T.toArray⟩ p vt b) rfl ?_; intro w1 hA1 hb1 hs1; clear hs1; obtain ⟨a0, a1, -, -, -⟩ := tk5_cells hA1; clear hA1; refine Hid.out ?_))
    refine hidU ?_
    go_wp2
    go_ret
    exact ⟨rfl, hb1⟩
end Go.Proofs.YtjgggmjjikopeaaGreatDoor

/- The reader of programs: values. -/
namespace Go.Proofs.YtjgggmjjikopeaaGreatDoor
open Go.RowKit
set_option linter.unusedVariables false

theorem negV_lt (v : Nat × Nat) (h : v.2 < 18446744073709551616) : (negV v).1 < 256 ∧ (negV v).2 < 18446744073709551616 := by
  unfold negV
  split
  · exact ⟨show (1 : Nat) < 256 by decide, Nat.mod_lt _ (by decide)⟩
  · exact ⟨show (3 : Nat) < 256 by decide, fneg_lt h⟩
theorem neg_u64 (b : Nat) (h : b < 18446744073709551616) : IntKind.u64.wrap (-(b : Int)) = (((18446744073709551616 - b) % 18446744073709551616 : Nat) : Int) := by
  rw [IntKind.wrap_u64]
  omega
set_option maxRecDepth 100000 in
set_option maxHeartbeats 1600000 in
theorem negated_any (vt vb : Nat) (hb : vb < 18446744073709551616) (w : World) : Calls Tryz.prog 128 #[.agg (val2 vt vb).toArray] w fun r w' => r = .returned (.agg (val2 (negV (vt, vb)).1 (negV (vt, vb)).2).toArray) ∧ Below w.heap.size w w' := by
  by_cases h1 : vt = 1
  focus
    have e1 : ((vt : Int) == 1) = true := by rw [beq_iff_eq]; omega
    have hn := neg_u64 vb hb
    have e : negV (vt, vb) = (1, (18446744073709551616 - vb) % 18446744073709551616) := by unfold negV; rw [if_pos h1]
    rw [e]
    obtain ⟨nb, hnb⟩ : ∃ q, Hid (q = (18446744073709551616 - vb) % 18446744073709551616) := ⟨_, (rfl : (18446744073709551616 - vb) % 18446744073709551616 = _)⟩
    rw [← hnb.out] at hn ⊢
    clear e h1 hnb
  rotate_left
  focus
    have e1 : ((vt : Int) == 1) = false := by rw [beq_eq_false_iff_ne]; omega
    have hn := fun u => neg_any vb hb u
    have e : negV (vt, vb) = (3, fneg vb) := by unfold negV; rw [if_neg h1]
    rw [e]
    generalize fneg vb = nb at hn ⊢
    clear e h1
  rotate_left
  all_goals
    go_enter Tryz.func128, Tryz.ntmps128
    go_wp2_with (first
      | ((with_reducible show wpList _ _ _ _ _ _); refine wpList_box_at rfl 40 (.tmp 0) rfl (val2 vt vb) rfl ?_; intro w1 hA1 hb1 hs1; clear hs1)
      | ((with_reducible show wpList _ _ _ _ _ _); refine wpList_alloc_at rfl 40 rfl (val2 0 0) 2 z32 ?_; intro w2 hA2 hb2 hs2; clear hs2; refine Hid.out ?_))
    refine hidU ?_
    obtain ⟨c0, c1⟩ := vl_cells (hA1.below hb2)
    have l01 := hA1.lt
    clear hA1
  focus
    go_wp2_with (first
      | ((with_reducible show wpList _ _ _ _ _ _); refine wpList_build_at rfl 40 _ rfl (val2 1 nb) (by first | kernel_rfl | (simp only [hn]; kernel_rfl)) ?_)
      | ((with_reducible show wpList _ _ _ _ _ _); refine wpList_store_at (P := Tryz.prog) rfl 40 (.tmp 2) (.tmp 9) rfl w1.heap.size (val2 1 nb) rfl rfl 40 _ hA2 i32 rfl (one2 _ _) ?_; intro w9 hA9 hb9 hs9))
    refine bodyPost_ret (results_at rfl _ _ w1.heap.size 40 (val2 1 nb) _ rfl hA9 Tryz.underlying40 rfl i32) rfl ?_
  rotate_left
  focus
    go_wp2_with (first
      | (go_at_call 161; refine (hn _).mono ?_; rintro r w3 ⟨rfl, rfl⟩)
      | ((with_reducible show wpList _ _ _ _ _ _); refine wpList_build_at rfl 40 _ rfl (val2 3 nb) (by kernel_rfl) ?_)
      | ((with_reducible show wpList _ _ _ _ _ _); refine wpList_store_at (P := Tryz.prog) rfl 40 (.tmp 2) (.tmp 13) rfl w1.heap.size (val2 3 nb) rfl rfl 40 _ hA2 i32 rfl (one2 _ _) ?_; intro w9 hA9 hb9 hs9))
    refine bodyPost_ret (results_at rfl _ _ w1.heap.size 40 (val2 3 nb) _ rfl hA9 Tryz.underlying40 rfl i32) rfl ?_
  rotate_left
  all_goals
    exact ⟨rfl, hb9.below (hb1.trans (hb2.mono hb1.size)) hb1.size (Nat.le_trans hb1.size hb2.size)⟩
/-- What the reader of a value tells. -/
def PostV (B g : Nat) (w : World) (R : Rs (Nat × Nat)) (r : Ending) (w' : World) : Prop :=
  match R with
  | .ok v l => r = .returned (.agg (val2 v.1 v.2).toArray) ∧ Rd B w' g l ∧ But g w w'
  | .bad e p => r = PanW e p ∧ But g w w'
theorem Rd.bit {B : Nat} {w : World} {g : Nat} {l : List Tk} (h : Rd B w g l) : (hdT l).bits < 18446744073709551616 := by
  obtain ⟨_, _, _, h, _⟩ := h
  refine h.bits _ ?_
  rw [h.ends.cons]
  exact List.mem_cons_self

theorem bit_tail {B : Nat} {w : World} {g : Nat} {l : List Tk} {x : List UInt8} (h : Rd B w g l) (hx : (hdT l).text = 45 :: x) : (hdT l.tail).bits < 18446744073709551616 := by
  obtain ⟨_, _, _, h, _⟩ := h
  have he := h.ends.tail (.inl (by rw [hx]; simp))
  refine h.bits _ (List.mem_of_mem_tail ?_)
  rw [he.cons]
  exact List.mem_cons_self
set_option maxRecDepth 100000 in
set_option maxHeartbeats 6400000 in
theorem valueY_any {B : Nat} (g t : Nat) (l : List Tk) (w : World) (h : Rd B w g l) (hBw : B ≤ w.heap.size) (hc : (hdT l).text = [45]) :
    Calls Tryz.prog 95 #[.pointer (some ⟨g, 0, none⟩), .int .u8 (t : Int)] w (PostV B g w (valueM true t (hdT l).place l.tail)) := by
  have lg := h.lt
  have H55 : Hid (∀ u, Below w.heap.size w u → Calls Tryz.prog 55 #[.pointer (some ⟨g, 0, none⟩), .string ⟨#[45]⟩] u fun r w' => r = .returned (.bool true) ∧ Rd B w' g l.tail ∧ But g u w') := fun u hu => takes_yes g l ⟨#[45]⟩ (by decide) hc u (h.below hu)
  have H0 : Hid (∀ u, Below w.heap.size w u → Calls Tryz.prog 92 #[.pointer (some ⟨g, 0, none⟩)] u fun r w' => r = .returned (.agg (hdT l).cells.toArray) ∧ Below u.heap.size u w') := fun u hu => next_any g l u (h.below hu)
  have hbit : (hdT l.tail).bits < 18446744073709551616 := bit_tail h hc
  have hlv := lit_lt hbit
  clear h hc
  generalize hdT l = t0 at H0 ⊢
  obtain ⟨K0, T0, p0, b0⟩ := t0
  dsimp only
  have H0 : Hid (∀ u, Below w.heap.size w u → Calls Tryz.prog 92 #[.pointer (some ⟨g, 0, none⟩)] u fun r w' => r = .returned (.agg #[.int .i64 (K0 : Int), .string ⟨T0.toArray⟩, .int .i64 (p0 : Int), .int .u8 (valT K0 : Nat), .int .u64 (b0 : Nat)]) ∧ Below u.heap.size u w') := H0
  generalize valT K0 = tv0 at H0
  have hf0 := fun u => field_place K0 ⟨T0.toArray⟩ p0 tv0 b0 u
  generalize l.tail = l at *
  have H92 : Hid (∀ u, Rd B u g l → Calls Tryz.prog 92 #[.pointer (some ⟨g, 0, none⟩)] u fun r w' => r = .returned (.agg (hdT l).cells.toArray) ∧ Below u.heap.size u w') := fun u hu => next_any g l u hu
  have H60 : Hid (∀ u, Rd B u g l → Calls Tryz.prog 60 #[.pointer (some ⟨g, 0, none⟩)] u fun r w' => r = PanW 4 (hdT l).place ∧ Below u.heap.size u w') := fun u hu => refuseNext_any g l u hu
  have HL : Hid (∀ u, Calls Tryz.prog 126 #[.agg (hdT l).cells.toArray] u fun r w' => r = .returned (.tuple #[.agg #[.int .u8 ((litV (hdT l)).1 : Int), .int .u64 ((litV (hdT l)).2 : Int)], .bool (litTk (hdT l)).isSome]) ∧ Below u.heap.size u w') := fun u => literal_any (hdT l) u
  have H127 : Hid (∀ u, Calls Tryz.prog 127 #[.agg (hdT l).cells.toArray] u fun r w' => r = .returned (.bool (signlessT (hdT l))) ∧ Below u.heap.size u w') := fun u => signless_any (hdT l) u
  obtain ⟨D, hD⟩ : ∃ D, Hid (D = valueM true t p0 l) := ⟨_, (rfl : valueM true t p0 l = _)⟩
  rw [← hD.out]
  unfold valueM at hD
  cases hc : litTk (hdT l)
  focus
    have hD' := hD.out
    rw [hc] at hD'
    dsimp only at hD'
    rw [hD']
    have hlV : litV (hdT l) = (valT (hdT l).kind, (hdT l).bits) := by unfold litV; rw [hc]; rfl
    rw [hlV, hc] at HL
    clear hlV
    clear hD' hD hc hlv hbit H127
  rotate_left
  focus
    rename_i v
    have hn := lit_ne (t := hdT l) (by rw [hc]; rfl)
    have H93 : Hid (∀ u, Rd B u g l → Calls Tryz.prog 93 #[.pointer (some ⟨g, 0, none⟩)] u fun r w' => r = .returned (.tuple #[]) ∧ Rd B w' g l.tail ∧ But g u w') := fun u hu => take_any g l u hu hn
    have hv : litV (hdT l) = v := by unfold litV; rw [hc]; rfl
    rw [hv] at hlv
    rw [hc] at hD
    dsimp only at hD
    rw [hv, hc] at HL
    obtain ⟨vt, vb⟩ := v
    have H128 : Hid (∀ u, Calls Tryz.prog 128 #[.agg #[.int .u8 (vt : Int), .int .u64 (vb : Int)]] u fun r w' => r = .returned (.agg #[.int .u8 ((negV (vt, vb)).1 : Int), .int .u64 ((negV (vt, vb)).2 : Int)]) ∧ Below u.heap.size u w') := fun u => negated_any vt vb hlv.2 u
    clear hn hv hc hbit
    generalize l.tail = l2 at *
  rotate_left
  all_goals
    generalize hdT l = t1 at *
    obtain ⟨K, T, p, b⟩ := t1
    have H92 : Hid (∀ u, Rd B u g l → Calls Tryz.prog 92 #[.pointer (some ⟨g, 0, none⟩)] u fun r w' => r = .returned (.agg #[.int .i64 (K : Int), .string ⟨T.toArray⟩, .int .i64 (p : Int), .int .u8 (valT K : Nat), .int .u64 (b : Nat)]) ∧ Below u.heap.size u w') := H92
  · have HL : Hid (∀ u, Calls Tryz.prog 126 #[.agg #[.int .i64 (K : Int), .string ⟨T.toArray⟩, .int .i64 (p : Int), .int .u8 (valT K : Nat), .int .u64 (b : Nat)]] u fun r w' => r = .returned (.tuple #[.agg #[.int .u8 (valT K : Int), .int .u64 (b : Int)], .bool false]) ∧ Below u.heap.size u w') := HL
    dsimp only at H60 ⊢
    generalize valT K = tv at *
    obtain ⟨vt, hvt⟩ : ∃ q, q = tv := ⟨_, rfl⟩
    obtain ⟨vb, hvb⟩ : ∃ q, q = b := ⟨_, rfl⟩
    have HL : Hid (∀ u, Calls Tryz.prog 126 #[.agg #[.int .i64 (K : Int), .string ⟨T.toArray⟩, .int .i64 (p : Int), .int .u8 (tv : Nat), .int .u64 (b : Nat)]] u fun r w' => r = .returned (.tuple #[.agg #[.int .u8 (vt : Int), .int .u64 (vb : Int)], .bool false]) ∧ Below u.heap.size u w') := by rw [hvt, hvb]; exact HL
    clear hvt hvb
    go_enter Tryz.func95, Tryz.ntmps95
    go_wp2_with (first
      | ((with_reducible show wpList _ _ _ _ _ _); refine wpList_alloc_at rfl 40 rfl (val2 0 0) 2 z32 ?_; intro w1 hA1 hb1 hs1; clear hs1)
      | (go_at_call 92; refine (H0.out _ hb1).mono ?_; rintro r w2 ⟨rfl, hb2⟩; refine Hid.out ?_))
    refine hidU ?_
    have hw2 : Below w.heap.size w w2 := hb1.trans (hb2.mono hb1.size)
    have C55 := H55.out w2 hw2
    have l01 := hA1.lt
    have hA1 := hA1.below hb2
    have l12 := hb2.size
    clear hb1 hb2
    go_wp2_with (go_at_call 55; refine C55.mono ?_; rintro r w3 ⟨rfl, hR3, hb3⟩; refine Hid.out ?_)
    refine hidU ?_
    have hA1 := hb3.at hA1 (by omega)
    have l23 := hb3.size
    have C92 := H92.out w3 hR3
    clear C55
    go_wp2_with (first
      | (go_at_call 92; refine C92.mono ?_; rintro r w4 ⟨rfl, hb4⟩)
      | ((with_reducible show wpList _ _ _ _ _ _); refine wpList_alloc_at rfl 64 rfl (tok5 0 ⟨#[]⟩ 0 0 0) 5 z34 ?_; intro w5 hA5 hb5 hs5; clear hs5)
      | ((with_reducible show wpList _ _ _ _ _ _); refine wpList_store_at (P := Tryz.prog) rfl 64 (.tmp 7) (.tmp 16) rfl w4.heap.size (tok5 K ⟨T.toArray⟩ p tv b) rfl rfl 64 _ hA5 i34 rfl (one5T _ _ _ _ _) ?_; intro w6 hA6 hb6 hs6; clear hs6; refine Hid.out ?_))
    refine hidU ?_
    have hw6 : Below w3.heap.size w3 w6 := hb6.below (hb4.trans (hb5.mono hb4.size)) hb4.size (Nat.le_trans hb4.size hb5.size)
    have l34 := hb4.size
    have l46 := hA6.lt
    have hA1 := hA1.below hw6
    clear C92 hA5 hb4 hb5 hb6
    go_wp2_with (first
      | ((with_reducible show wpList _ _ _ _ _ _); refine wpList_load_at (P := Tryz.prog) rfl 64 (.tmp 7) rfl w4.heap.size rfl 64 (tok5 K ⟨T.toArray⟩ p tv b) hA6 _ Tryz.underlying64 rfl i34 ?_)
      | (go_at_call 126; refine (HL.out _).mono ?_; rintro r w7 ⟨rfl, hb7⟩)
      | ((with_reducible show wpList _ _ _ _ _ _); refine wpList_alloc_at rfl 40 rfl (val2 0 0) 2 z32 ?_; intro w8 hA8 hb8 hs8; clear hs8)
      | ((with_reducible show wpList _ _ _ _ _ _); refine wpList_store_at (P := Tryz.prog) rfl 40 (.tmp 8) (.tmp 20) rfl w7.heap.size (val2 vt vb) rfl rfl 40 _ hA8 i32 rfl (one2 _ _) ?_; intro w9 hA9 hb9 hs9; clear hs9; refine Hid.out ?_))
    refine hidU ?_
    have h69 : Below w6.heap.size w6 w9 := hb9.below (hb7.trans (hb8.mono hb7.size)) hb7.size (Nat.le_trans hb7.size hb8.size)
    have l67 := hb7.size
    have l79 := hA9.lt
    have hA6 := hA6.below h69
    have hA1 := hA1.below h69
    have h39 : Below w3.heap.size w3 w9 := hw6.trans (h69.mono hw6.size)
    have hR9 := hR3.below h39
    have hbt : But g w w9 := ((But.of_below hw2).trans hb3).trans (But.of_below h39)
    clear hA8 hb7 hb8 hb9 hw6 h69 h39 hb3 hR3 hw2
    have C60 := H60.out w9 hR9
    clear hA1 hA6 hA9
    go_wp2_with (go_at_call 60; refine C60.mono ?_; rintro r wA ⟨hr, hbA⟩; unfold PanW at hr; subst hr)
    exact ⟨rfl, rfl, hbt.trans (But.of_below hbA)⟩
  · have HL : Hid (∀ u, Calls Tryz.prog 126 #[.agg #[.int .i64 (K : Int), .string ⟨T.toArray⟩, .int .i64 (p : Int), .int .u8 (valT K : Nat), .int .u64 (b : Nat)]] u fun r w' => r = .returned (.tuple #[.agg #[.int .u8 (vt : Int), .int .u64 (vb : Int)], .bool true]) ∧ Below u.heap.size u w') := HL
    have H127 : Hid (∀ u, Calls Tryz.prog 127 #[.agg #[.int .i64 (K : Int), .string ⟨T.toArray⟩, .int .i64 (p : Int), .int .u8 (valT K : Nat), .int .u64 (b : Nat)]] u fun r w' => r = .returned (.bool (signlessT ⟨K, T, p, b⟩)) ∧ Below u.heap.size u w') := H127
    dsimp only at H60 hD
    generalize valT K = tv at *
    generalize signlessT ⟨K, T, p, b⟩ = sg at *
    cases sg with
    | true =>
      have hD' := hD.out
      rw [if_pos (by rfl)] at hD'
      rw [hD']
      clear hD hD' H93 H128
      go_enter Tryz.func95, Tryz.ntmps95
      go_wp2_with (first
        | ((with_reducible show wpList _ _ _ _ _ _); refine wpList_alloc_at rfl 40 rfl (val2 0 0) 2 z32 ?_; intro w1 hA1 hb1 hs1; clear hs1)
        | (go_at_call 92; refine (H0.out _ hb1).mono ?_; rintro r w2 ⟨rfl, hb2⟩; refine Hid.out ?_))
      refine hidU ?_
      have hw2 : Below w.heap.size w w2 := hb1.trans (hb2.mono hb1.size)
      have C55 := H55.out w2 hw2
      have l01 := hA1.lt
      have hA1 := hA1.below hb2
      have l12 := hb2.size
      clear hb1 hb2
      go_wp2_with (go_at_call 55; refine C55.mono ?_; rintro r w3 ⟨rfl, hR3, hb3⟩; refine Hid.out ?_)
      refine hidU ?_
      have hA1 := hb3.at hA1 (by omega)
      have l23 := hb3.size
      have C92 := H92.out w3 hR3
      clear C55
      go_wp2_with (first
        | (go_at_call 92; refine C92.mono ?_; rintro r w4 ⟨rfl, hb4⟩)
        | ((with_reducible show wpList _ _ _ _ _ _); refine wpList_alloc_at rfl 64 rfl (tok5 0 ⟨#[]⟩ 0 0 0) 5 z34 ?_; intro w5 hA5 hb5 hs5; clear hs5)
        | ((with_reducible show wpList _ _ _ _ _ _); refine wpList_store_at (P := Tryz.prog) rfl 64 (.tmp 7) (.tmp 16) rfl w4.heap.size (tok5 K ⟨T.toArray⟩ p tv b) rfl rfl 64 _ hA5 i34 rfl (one5T _ _ _ _ _) ?_; intro w6 hA6 hb6 hs6; clear hs6; refine Hid.out ?_))
      refine hidU ?_
      have hw6 : Below w3.heap.size w3 w6 := hb6.below (hb4.trans (hb5.mono hb4.size)) hb4.size (Nat.le_trans hb4.size hb5.size)
      have l34 := hb4.size
      have l46 := hA6.lt
      have hA1 := hA1.below hw6
      clear C92 hA5 hb4 hb5 hb6
      go_wp2_with (first
        | ((with_reducible show wpList _ _ _ _ _ _); refine wpList_load_at (P := Tryz.prog) rfl 64 (.tmp 7) rfl w4.heap.size rfl 64 (tok5 K ⟨T.toArray⟩ p tv b) hA6 _ Tryz.underlying64 rfl i34 ?_)
        | (go_at_call 126; refine (HL.out _).mono ?_; rintro r w7 ⟨rfl, hb7⟩)
        | ((with_reducible show wpList _ _ _ _ _ _); refine wpList_alloc_at rfl 40 rfl (val2 0 0) 2 z32 ?_; intro w8 hA8 hb8 hs8; clear hs8)
        | ((with_reducible show wpList _ _ _ _ _ _); refine wpList_store_at (P := Tryz.prog) rfl 40 (.tmp 8) (.tmp 20) rfl w7.heap.size (val2 vt vb) rfl rfl 40 _ hA8 i32 rfl (one2 _ _) ?_; intro w9 hA9 hb9 hs9; clear hs9; refine Hid.out ?_))
      refine hidU ?_
      have h69 : Below w6.heap.size w6 w9 := hb9.below (hb7.trans (hb8.mono hb7.size)) hb7.size (Nat.le_trans hb7.size hb8.size)
      have l67 := hb7.size
      have l79 := hA9.lt
      have hA6 := hA6.below h69
      have hA1 := hA1.below h69
      have h39 : Below w3.heap.size w3 w9 := hw6.trans (h69.mono hw6.size)
      have hR9 := hR3.below h39
      have hbt : But g w w9 := ((But.of_below hw2).trans hb3).trans (But.of_below h39)
      clear hA8 hb7 hb8 hb9 hw6 h69 h39 hb3 hR3 hw2
      have C127 := H127.out w9
      obtain ⟨d0, d1, d2, d3, d4⟩ := tk5_cells hA6
      go_wp2_with (go_at_call 127; refine C127.mono ?_; rintro r wA ⟨rfl, hbA⟩; refine Hid.out ?_)
      refine hidU ?_
      have hR9 := hR9.below hbA
      have hbt := hbt.trans (But.of_below hbA)
      have hA1 := hA1.below hbA
      have hA9 := hA9.below hbA
      have l9A := hbA.size
      clear C127 hA6 hbA d0 d1 d2 d3 d4
      have C60 := H60.out wA hR9
      clear hA1 hA9
      go_wp2_with (go_at_call 60; refine C60.mono ?_; rintro r wB ⟨hr, hbB⟩; unfold PanW at hr; subst hr)
      exact ⟨rfl, rfl, hbt.trans (But.of_below hbB)⟩
    | false =>
    rw [if_neg (by decide)] at hD
    by_cases hvt : vt = t
    focus
      have e3 : ((vt : Int) != (t : Int)) = false := by rw [bne_eq_false_iff_eq]; omega
      have hD' := hD.out
      rw [if_pos hvt] at hD'
      rw [hD']
      clear hD hD' hvt H60
      rw [if_pos rfl]
      generalize negV (vt, vb) = nv at *
      obtain ⟨nt, nb⟩ := nv
      dsimp only at H128
    rotate_left
    focus
      have e3 : ((vt : Int) != (t : Int)) = true := by rw [bne_iff_ne]; omega
      have hD' := hD.out
      rw [if_neg hvt] at hD'
      rw [hD']
      clear hD hD' hvt H60 H128
    rotate_left
    all_goals
      go_enter Tryz.func95, Tryz.ntmps95
      go_wp2_with (first
        | ((with_reducible show wpList _ _ _ _ _ _); refine wpList_alloc_at rfl 40 rfl (val2 0 0) 2 z32 ?_; intro w1 hA1 hb1 hs1; clear hs1)
        | (go_at_call 92; refine (H0.out _ hb1).mono ?_; rintro r w2 ⟨rfl, hb2⟩; refine Hid.out ?_))
      refine hidU ?_
      have hw2 : Below w.heap.size w w2 := hb1.trans (hb2.mono hb1.size)
      have C55 := H55.out w2 hw2
      have l01 := hA1.lt
      have hA1 := hA1.below hb2
      have l12 := hb2.size
      clear hb1 hb2
      go_wp2_with (go_at_call 55; refine C55.mono ?_; rintro r w3 ⟨rfl, hR3, hb3⟩; refine Hid.out ?_)
      refine hidU ?_
      have hA1 := hb3.at hA1 (by omega)
      have l23 := hb3.size
      have C92 := H92.out w3 hR3
      clear C55
      go_wp2_with (first
        | (go_at_call 92; refine C92.mono ?_; rintro r w4 ⟨rfl, hb4⟩)
        | ((with_reducible show wpList _ _ _ _ _ _); refine wpList_alloc_at rfl 64 rfl (tok5 0 ⟨#[]⟩ 0 0 0) 5 z34 ?_; intro w5 hA5 hb5 hs5; clear hs5)
        | ((with_reducible show wpList _ _ _ _ _ _); refine wpList_store_at (P := Tryz.prog) rfl 64 (.tmp 7) (.tmp 16) rfl w4.heap.size (tok5 K ⟨T.toArray⟩ p tv b) rfl rfl 64 _ hA5 i34 rfl (one5T _ _ _ _ _) ?_; intro w6 hA6 hb6 hs6; clear hs6; refine Hid.out ?_))
      refine hidU ?_
      have hw6 : Below w3.heap.size w3 w6 := hb6.below (hb4.trans (hb5.mono hb4.size)) hb4.size (Nat.le_trans hb4.size hb5.size)
      have l34 := hb4.size
      have l46 := hA6.lt
      have hA1 := hA1.below hw6
      clear C92 hA5 hb4 hb5 hb6
      go_wp2_with (first
        | ((with_reducible show wpList _ _ _ _ _ _); refine wpList_load_at (P := Tryz.prog) rfl 64 (.tmp 7) rfl w4.heap.size rfl 64 (tok5 K ⟨T.toArray⟩ p tv b) hA6 _ Tryz.underlying64 rfl i34 ?_)
        | (go_at_call 126; refine (HL.out _).mono ?_; rintro r w7 ⟨rfl, hb7⟩)
        | ((with_reducible show wpList _ _ _ _ _ _); refine wpList_alloc_at rfl 40 rfl (val2 0 0) 2 z32 ?_; intro w8 hA8 hb8 hs8; clear hs8)
        | ((with_reducible show wpList _ _ _ _ _ _); refine wpList_store_at (P := Tryz.prog) rfl 40 (.tmp 8) (.tmp 20) rfl w7.heap.size (val2 vt vb) rfl rfl 40 _ hA8 i32 rfl (one2 _ _) ?_; intro w9 hA9 hb9 hs9; clear hs9; refine Hid.out ?_))
      refine hidU ?_
      have h69 : Below w6.heap.size w6 w9 := hb9.below (hb7.trans (hb8.mono hb7.size)) hb7.size (Nat.le_trans hb7.size hb8.size)
      have l67 := hb7.size
      have l79 := hA9.lt
      have hA6 := hA6.below h69
      have hA1 := hA1.below h69
      have h39 : Below w3.heap.size w3 w9 := hw6.trans (h69.mono hw6.size)
      have hR9 := hR3.below h39
      have hbt : But g w w9 := ((But.of_below hw2).trans hb3).trans (But.of_below h39)
      clear hA8 hb7 hb8 hb9 hw6 h69 h39 hb3 hR3 hw2
      have C127 := H127.out w9
      obtain ⟨d0, d1, d2, d3, d4⟩ := tk5_cells hA6
      go_wp2_with (go_at_call 127; refine C127.mono ?_; rintro r wA ⟨rfl, hbA⟩; refine Hid.out ?_)
      refine hidU ?_
      have hR9 := hR9.below hbA
      have hbt := hbt.trans (But.of_below hbA)
      have hA1 := hA1.below hbA
      have hA9 := hA9.below hbA
      have l9A := hbA.size
      clear C127 hA6 hbA d0 d1 d2 d3 d4
      have C93 := H93.out wA hR9
      go_wp2_with (go_at_call 93; refine C93.mono ?_; rintro r wC ⟨rfl, hRC, hbC⟩; refine Hid.out ?_)
      refine hidU ?_
      have hbt := hbt.trans hbC
      have hA1 := hbC.at hA1 (by omega)
      have hA9 := hbC.at hA9 (by omega)
      obtain ⟨c0, c1⟩ := vl_cells hA9
      clear C93 hR9 hbC
    · go_wp2_with (first
        | ((with_reducible show wpList _ _ _ _ _ _); refine wpList_load_at (P := Tryz.prog) rfl 40 (.tmp 8) rfl w7.heap.size rfl 40 (val2 vt vb) hA9 _ Tryz.underlying40 rfl i32 ?_)
        | (go_at_call 128; refine (H128.out _).mono ?_; rintro r wD ⟨rfl, hbD⟩; refine Hid.out ?_))
      refine hidU ?_
      have hA1 := hA1.below hbD
      have hbt := hbt.trans (But.of_below hbD)
      have hRC := hRC.below hbD
      go_wp2_with (first
        | ((with_reducible show wpList _ _ _ _ _ _); refine wpList_store_at (P := Tryz.prog) rfl 40 (.tmp 4) (.tmp 43) rfl w.heap.size (val2 nt nb) rfl rfl 40 _ hA1 i32 rfl (one2 _ _) ?_; intro wE hAE hbE hsE))
      refine bodyPost_ret (results_at rfl _ _ w.heap.size 40 (val2 nt nb) _ rfl hAE Tryz.underlying40 rfl i32) rfl ?_
      exact ⟨rfl, hRC.but hbE hBw, hbt.fresh hbE (Nat.le_refl _)⟩
    · clear hA1 hA9
      go_wp2_with (go_at_call 54; refine (refuse_any 9 p0 _).mono ?_; rintro r wD ⟨hr, rfl⟩; unfold PanW at hr; subst hr)
      exact ⟨rfl, rfl, hbt⟩
set_option maxRecDepth 100000 in
set_option maxHeartbeats 6400000 in
theorem valueN_any {B : Nat} (g t : Nat) (l : List Tk) (w : World) (h : Rd B w g l) (hBw : B ≤ w.heap.size) (hc : (hdT l).text ≠ [45]) :
    Calls Tryz.prog 95 #[.pointer (some ⟨g, 0, none⟩), .int .u8 (t : Int)] w (PostV B g w (valueM false t (hdT l).place l)) := by
  have lg := h.lt
  have H55 : Hid (∀ u, Below w.heap.size w u → Calls Tryz.prog 55 #[.pointer (some ⟨g, 0, none⟩), .string ⟨#[45]⟩] u fun r w' => r = .returned (.bool false) ∧ Rd B w' g l ∧ But g u w') := fun u hu => takes_no g l ⟨#[45]⟩ (by decide) hc u (h.below hu)
  have H0 : Hid (∀ u, Below w.heap.size w u → Calls Tryz.prog 92 #[.pointer (some ⟨g, 0, none⟩)] u fun r w' => r = .returned (.agg (hdT l).cells.toArray) ∧ Below u.heap.size u w') := fun u hu => next_any g l u (h.below hu)
  have hbit : (hdT l).bits < 18446744073709551616 := h.bit
  have hlv := lit_lt hbit
  clear h hc
  generalize hdT l = t0 at H0 ⊢
  obtain ⟨K0, T0, p0, b0⟩ := t0
  dsimp only
  have H0 : Hid (∀ u, Below w.heap.size w u → Calls Tryz.prog 92 #[.pointer (some ⟨g, 0, none⟩)] u fun r w' => r = .returned (.agg #[.int .i64 (K0 : Int), .string ⟨T0.toArray⟩, .int .i64 (p0 : Int), .int .u8 (valT K0 : Nat), .int .u64 (b0 : Nat)]) ∧ Below u.heap.size u w') := H0
  generalize valT K0 = tv0 at H0
  have hf0 := fun u => field_place K0 ⟨T0.toArray⟩ p0 tv0 b0 u
  skip
  have H92 : Hid (∀ u, Rd B u g l → Calls Tryz.prog 92 #[.pointer (some ⟨g, 0, none⟩)] u fun r w' => r = .returned (.agg (hdT l).cells.toArray) ∧ Below u.heap.size u w') := fun u hu => next_any g l u hu
  have H60 : Hid (∀ u, Rd B u g l → Calls Tryz.prog 60 #[.pointer (some ⟨g, 0, none⟩)] u fun r w' => r = PanW 4 (hdT l).place ∧ Below u.heap.size u w') := fun u hu => refuseNext_any g l u hu
  have HL : Hid (∀ u, Calls Tryz.prog 126 #[.agg (hdT l).cells.toArray] u fun r w' => r = .returned (.tuple #[.agg #[.int .u8 ((litV (hdT l)).1 : Int), .int .u64 ((litV (hdT l)).2 : Int)], .bool (litTk (hdT l)).isSome]) ∧ Below u.heap.size u w') := fun u => literal_any (hdT l) u
  have H127 : Hid (∀ u, Calls Tryz.prog 127 #[.agg (hdT l).cells.toArray] u fun r w' => r = .returned (.bool (signlessT (hdT l))) ∧ Below u.heap.size u w') := fun u => signless_any (hdT l) u
  obtain ⟨D, hD⟩ : ∃ D, Hid (D = valueM false t p0 l) := ⟨_, (rfl : valueM false t p0 l = _)⟩
  rw [← hD.out]
  unfold valueM at hD
  cases hc : litTk (hdT l)
  focus
    have hD' := hD.out
    rw [hc] at hD'
    dsimp only at hD'
    rw [hD']
    have hlV : litV (hdT l) = (valT (hdT l).kind, (hdT l).bits) := by unfold litV; rw [hc]; rfl
    rw [hlV, hc] at HL
    clear hlV
    clear hD' hD hc hlv hbit H127
  rotate_left
  focus
    rename_i v
    have hn := lit_ne (t := hdT l) (by rw [hc]; rfl)
    have H93 : Hid (∀ u, Rd B u g l → Calls Tryz.prog 93 #[.pointer (some ⟨g, 0, none⟩)] u fun r w' => r = .returned (.tuple #[]) ∧ Rd B w' g l.tail ∧ But g u w') := fun u hu => take_any g l u hu hn
    have hv : litV (hdT l) = v := by unfold litV; rw [hc]; rfl
    rw [hv] at hlv
    rw [hc] at hD
    dsimp only at hD
    rw [hv, hc] at HL
    obtain ⟨vt, vb⟩ := v
    have H128 : Hid (∀ u, Calls Tryz.prog 128 #[.agg #[.int .u8 (vt : Int), .int .u64 (vb : Int)]] u fun r w' => r = .returned (.agg #[.int .u8 ((negV (vt, vb)).1 : Int), .int .u64 ((negV (vt, vb)).2 : Int)]) ∧ Below u.heap.size u w') := fun u => negated_any vt vb hlv.2 u
    clear hn hv hc hbit
    generalize l.tail = l2 at *
  rotate_left
  all_goals
    generalize hdT l = t1 at *
    obtain ⟨K, T, p, b⟩ := t1
    have H92 : Hid (∀ u, Rd B u g l → Calls Tryz.prog 92 #[.pointer (some ⟨g, 0, none⟩)] u fun r w' => r = .returned (.agg #[.int .i64 (K : Int), .string ⟨T.toArray⟩, .int .i64 (p : Int), .int .u8 (valT K : Nat), .int .u64 (b : Nat)]) ∧ Below u.heap.size u w') := H92
  · have HL : Hid (∀ u, Calls Tryz.prog 126 #[.agg #[.int .i64 (K : Int), .string ⟨T.toArray⟩, .int .i64 (p : Int), .int .u8 (valT K : Nat), .int .u64 (b : Nat)]] u fun r w' => r = .returned (.tuple #[.agg #[.int .u8 (valT K : Int), .int .u64 (b : Int)], .bool false]) ∧ Below u.heap.size u w') := HL
    dsimp only at H60 ⊢
    generalize valT K = tv at *
    obtain ⟨vt, hvt⟩ : ∃ q, q = tv := ⟨_, rfl⟩
    obtain ⟨vb, hvb⟩ : ∃ q, q = b := ⟨_, rfl⟩
    have HL : Hid (∀ u, Calls Tryz.prog 126 #[.agg #[.int .i64 (K : Int), .string ⟨T.toArray⟩, .int .i64 (p : Int), .int .u8 (tv : Nat), .int .u64 (b : Nat)]] u fun r w' => r = .returned (.tuple #[.agg #[.int .u8 (vt : Int), .int .u64 (vb : Int)], .bool false]) ∧ Below u.heap.size u w') := by rw [hvt, hvb]; exact HL
    clear hvt hvb
    go_enter Tryz.func95, Tryz.ntmps95
    go_wp2_with (first
      | ((with_reducible show wpList _ _ _ _ _ _); refine wpList_alloc_at rfl 40 rfl (val2 0 0) 2 z32 ?_; intro w1 hA1 hb1 hs1; clear hs1)
      | (go_at_call 92; refine (H0.out _ hb1).mono ?_; rintro r w2 ⟨rfl, hb2⟩; refine Hid.out ?_))
    refine hidU ?_
    have hw2 : Below w.heap.size w w2 := hb1.trans (hb2.mono hb1.size)
    have C55 := H55.out w2 hw2
    have l01 := hA1.lt
    have hA1 := hA1.below hb2
    have l12 := hb2.size
    clear hb1 hb2
    go_wp2_with (go_at_call 55; refine C55.mono ?_; rintro r w3 ⟨rfl, hR3, hb3⟩; refine Hid.out ?_)
    refine hidU ?_
    have hA1 := hb3.at hA1 (by omega)
    have l23 := hb3.size
    have C92 := H92.out w3 hR3
    clear C55
    go_wp2_with (first
      | (go_at_call 92; refine C92.mono ?_; rintro r w4 ⟨rfl, hb4⟩)
      | ((with_reducible show wpList _ _ _ _ _ _); refine wpList_alloc_at rfl 64 rfl (tok5 0 ⟨#[]⟩ 0 0 0) 5 z34 ?_; intro w5 hA5 hb5 hs5; clear hs5)
      | ((with_reducible show wpList _ _ _ _ _ _); refine wpList_store_at (P := Tryz.prog) rfl 64 (.tmp 7) (.tmp 16) rfl w4.heap.size (tok5 K ⟨T.toArray⟩ p tv b) rfl rfl 64 _ hA5 i34 rfl (one5T _ _ _ _ _) ?_; intro w6 hA6 hb6 hs6; clear hs6; refine Hid.out ?_))
    refine hidU ?_
    have hw6 : Below w3.heap.size w3 w6 := hb6.below (hb4.trans (hb5.mono hb4.size)) hb4.size (Nat.le_trans hb4.size hb5.size)
    have l34 := hb4.size
    have l46 := hA6.lt
    have hA1 := hA1.below hw6
    clear C92 hA5 hb4 hb5 hb6
    go_wp2_with (first
      | ((with_reducible show wpList _ _ _ _ _ _); refine wpList_load_at (P := Tryz.prog) rfl 64 (.tmp 7) rfl w4.heap.size rfl 64 (tok5 K ⟨T.toArray⟩ p tv b) hA6 _ Tryz.underlying64 rfl i34 ?_)
      | (go_at_call 126; refine (HL.out _).mono ?_; rintro r w7 ⟨rfl, hb7⟩)
      | ((with_reducible show wpList _ _ _ _ _ _); refine wpList_alloc_at rfl 40 rfl (val2 0 0) 2 z32 ?_; intro w8 hA8 hb8 hs8; clear hs8)
      | ((with_reducible show wpList _ _ _ _ _ _); refine wpList_store_at (P := Tryz.prog) rfl 40 (.tmp 8) (.tmp 20) rfl w7.heap.size (val2 vt vb) rfl rfl 40 _ hA8 i32 rfl (one2 _ _) ?_; intro w9 hA9 hb9 hs9; clear hs9; refine Hid.out ?_))
    refine hidU ?_
    have h69 : Below w6.heap.size w6 w9 := hb9.below (hb7.trans (hb8.mono hb7.size)) hb7.size (Nat.le_trans hb7.size hb8.size)
    have l67 := hb7.size
    have l79 := hA9.lt
    have hA6 := hA6.below h69
    have hA1 := hA1.below h69
    have h39 : Below w3.heap.size w3 w9 := hw6.trans (h69.mono hw6.size)
    have hR9 := hR3.below h39
    have hbt : But g w w9 := ((But.of_below hw2).trans hb3).trans (But.of_below h39)
    clear hA8 hb7 hb8 hb9 hw6 h69 h39 hb3 hR3 hw2
    have C60 := H60.out w9 hR9
    clear hA1 hA6 hA9
    go_wp2_with (go_at_call 60; refine C60.mono ?_; rintro r wA ⟨hr, hbA⟩; unfold PanW at hr; subst hr)
    exact ⟨rfl, rfl, hbt.trans (But.of_below hbA)⟩
  · have HL : Hid (∀ u, Calls Tryz.prog 126 #[.agg #[.int .i64 (K : Int), .string ⟨T.toArray⟩, .int .i64 (p : Int), .int .u8 (valT K : Nat), .int .u64 (b : Nat)]] u fun r w' => r = .returned (.tuple #[.agg #[.int .u8 (vt : Int), .int .u64 (vb : Int)], .bool true]) ∧ Below u.heap.size u w') := HL
    have H127 : Hid (∀ u, Calls Tryz.prog 127 #[.agg #[.int .i64 (K : Int), .string ⟨T.toArray⟩, .int .i64 (p : Int), .int .u8 (valT K : Nat), .int .u64 (b : Nat)]] u fun r w' => r = .returned (.bool (signlessT ⟨K, T, p, b⟩)) ∧ Below u.heap.size u w') := H127
    dsimp only at H60 hD
    generalize valT K = tv at *
    generalize signlessT ⟨K, T, p, b⟩ = sg at *
    rw [if_neg (by simp)] at hD
    clear H127
    by_cases hvt : vt = t
    focus
      have e3 : ((vt : Int) != (t : Int)) = false := by rw [bne_eq_false_iff_eq]; omega
      have hD' := hD.out
      rw [if_pos hvt] at hD'
      rw [hD']
      clear hD hD' hvt H60
      rw [if_neg (by decide)]
      clear H128
    rotate_left
    focus
      have e3 : ((vt : Int) != (t : Int)) = true := by rw [bne_iff_ne]; omega
      have hD' := hD.out
      rw [if_neg hvt] at hD'
      rw [hD']
      clear hD hD' hvt H60 H128
    rotate_left
    all_goals
      go_enter Tryz.func95, Tryz.ntmps95
      go_wp2_with (first
        | ((with_reducible show wpList _ _ _ _ _ _); refine wpList_alloc_at rfl 40 rfl (val2 0 0) 2 z32 ?_; intro w1 hA1 hb1 hs1; clear hs1)
        | (go_at_call 92; refine (H0.out _ hb1).mono ?_; rintro r w2 ⟨rfl, hb2⟩; refine Hid.out ?_))
      refine hidU ?_
      have hw2 : Below w.heap.size w w2 := hb1.trans (hb2.mono hb1.size)
      have C55 := H55.out w2 hw2
      have l01 := hA1.lt
      have hA1 := hA1.below hb2
      have l12 := hb2.size
      clear hb1 hb2
      go_wp2_with (go_at_call 55; refine C55.mono ?_; rintro r w3 ⟨rfl, hR3, hb3⟩; refine Hid.out ?_)
      refine hidU ?_
      have hA1 := hb3.at hA1 (by omega)
      have l23 := hb3.size
      have C92 := H92.out w3 hR3
      clear C55
      go_wp2_with (first
        | (go_at_call 92; refine C92.mono ?_; rintro r w4 ⟨rfl, hb4⟩)
        | ((with_reducible show wpList _ _ _ _ _ _); refine wpList_alloc_at rfl 64 rfl (tok5 0 ⟨#[]⟩ 0 0 0) 5 z34 ?_; intro w5 hA5 hb5 hs5; clear hs5)
        | ((with_reducible show wpList _ _ _ _ _ _); refine wpList_store_at (P := Tryz.prog) rfl 64 (.tmp 7) (.tmp 16) rfl w4.heap.size (tok5 K ⟨T.toArray⟩ p tv b) rfl rfl 64 _ hA5 i34 rfl (one5T _ _ _ _ _) ?_; intro w6 hA6 hb6 hs6; clear hs6; refine Hid.out ?_))
      refine hidU ?_
      have hw6 : Below w3.heap.size w3 w6 := hb6.below (hb4.trans (hb5.mono hb4.size)) hb4.size (Nat.le_trans hb4.size hb5.size)
      have l34 := hb4.size
      have l46 := hA6.lt
      have hA1 := hA1.below hw6
      clear C92 hA5 hb4 hb5 hb6
      go_wp2_with (first
        | ((with_reducible show wpList _ _ _ _ _ _); refine wpList_load_at (P := Tryz.prog) rfl 64 (.tmp 7) rfl w4.heap.size rfl 64 (tok5 K ⟨T.toArray⟩ p tv b) hA6 _ Tryz.underlying64 rfl i34 ?_)
        | (go_at_call 126; refine (HL.out _).mono ?_; rintro r w7 ⟨rfl, hb7⟩)
        | ((with_reducible show wpList _ _ _ _ _ _); refine wpList_alloc_at rfl 40 rfl (val2 0 0) 2 z32 ?_; intro w8 hA8 hb8 hs8; clear hs8)
        | ((with_reducible show wpList _ _ _ _ _ _); refine wpList_store_at (P := Tryz.prog) rfl 40 (.tmp 8) (.tmp 20) rfl w7.heap.size (val2 vt vb) rfl rfl 40 _ hA8 i32 rfl (one2 _ _) ?_; intro w9 hA9 hb9 hs9; clear hs9; refine Hid.out ?_))
      refine hidU ?_
      have h69 : Below w6.heap.size w6 w9 := hb9.below (hb7.trans (hb8.mono hb7.size)) hb7.size (Nat.le_trans hb7.size hb8.size)
      have l67 := hb7.size
      have l79 := hA9.lt
      have hA6 := hA6.below h69
      have hA1 := hA1.below h69
      have h39 : Below w3.heap.size w3 w9 := hw6.trans (h69.mono hw6.size)
      have hR9 := hR3.below h39
      have hbt : But g w w9 := ((But.of_below hw2).trans hb3).trans (But.of_below h39)
      clear hA8 hb7 hb8 hb9 hw6 h69 h39 hb3 hR3 hw2
      clear hA6
      have C93 := H93.out w9 hR9
      go_wp2_with (go_at_call 93; refine C93.mono ?_; rintro r wC ⟨rfl, hRC, hbC⟩; refine Hid.out ?_)
      refine hidU ?_
      have hbt := hbt.trans hbC
      have hA1 := hbC.at hA1 (by omega)
      have hA9 := hbC.at hA9 (by omega)
      obtain ⟨c0, c1⟩ := vl_cells hA9
      clear C93 hR9 hbC
    · go_wp2_with (first
        | ((with_reducible show wpList _ _ _ _ _ _); refine wpList_load_at (P := Tryz.prog) rfl 40 (.tmp 8) rfl w7.heap.size rfl 40 (val2 vt vb) hA9 _ Tryz.underlying40 rfl i32 ?_)
        | ((with_reducible show wpList _ _ _ _ _ _); refine wpList_store_at (P := Tryz.prog) rfl 40 (.tmp 4) (.tmp 44) rfl w.heap.size (val2 vt vb) rfl rfl 40 _ hA1 i32 rfl (one2 _ _) ?_; intro wE hAE hbE hsE))
      refine bodyPost_ret (results_at rfl _ _ w.heap.size 40 (val2 vt vb) _ rfl hAE Tryz.underlying40 rfl i32) rfl ?_
      exact ⟨rfl, hRC.but hbE hBw, hbt.fresh hbE (Nat.le_refl _)⟩
    · clear hA1 hA9
      go_wp2_with (go_at_call 54; refine (refuse_any 9 p0 _).mono ?_; rintro r wD ⟨hr, rfl⟩; unfold PanW at hr; subst hr)
      exact ⟨rfl, rfl, hbt⟩
theorem value95_any {B : Nat} (g t : Nat) (l : List Tk) (w : World) (h : Rd B w g l) (hBw : B ≤ w.heap.size) :
    Calls Tryz.prog 95 #[.pointer (some ⟨g, 0, none⟩), .int .u8 (t : Int)] w (PostV B g w (valueR t l)) := by
  unfold valueR
  by_cases hc : (hdT l).text = [45]
  · rw [if_pos hc]
    exact valueY_any g t l w h hBw hc
  · rw [if_neg hc]
    exact valueN_any g t l w h hBw hc
end Go.Proofs.YtjgggmjjikopeaaGreatDoor

/- The reader of programs: variables. -/
namespace Go.Proofs.YtjgggmjjikopeaaGreatDoor
open Go.RowKit
set_option linter.unusedVariables false

/-- What the reader of a variable tells. -/
def PostVr (B g : Nat) (w : World) (R : Rs Vr) (r : Ending) (w' : World) : Prop :=
  match R with
  | .ok v l => r = .returned (.agg (VT.cells ⟨⟨v.nm.toArray⟩, v.t, v.b⟩).toArray) ∧ (v.t < 256 ∧ v.b < 18446744073709551616) ∧ Rd B w' g l ∧ But g w w'
  | .bad e p => r = PanW e p ∧ But g w w'
theorem typeR_lt {l r : List Tk} {t : Nat} (h : typeR l = .ok t r) : t < 256 := by
  unfold typeR at h
  split at h
  · cases h; decide
  · split at h
    · cases h; decide
    · split at h
      · cases h; decide
      · cases h
theorem valueM_lt {m : Bool} {t p : Nat} {l r : List Tk} {v : Nat × Nat} (hb : (hdT l).bits < 18446744073709551616) (h : valueM m t p l = .ok v r) : v.1 < 256 ∧ v.2 < 18446744073709551616 := by
  have hlv := lit_lt hb
  unfold valueM at h
  split at h
  · cases h
  · next u hu =>
    have hv : litV (hdT l) = u := by unfold litV; rw [hu]; rfl
    rw [hv] at hlv
    split at h
    · cases h
    · split at h
      · cases h
        cases m
        · exact hlv
        · exact negV_lt u hlv.2
      · cases h
theorem valueR_lt {B : Nat} {w : World} {g t : Nat} {l r : List Tk} {v : Nat × Nat} (hR : Rd B w g l) (h : valueR t l = .ok v r) : v.1 < 256 ∧ v.2 < 18446744073709551616 := by
  unfold valueR at h
  split at h
  · next hc => exact valueM_lt (bit_tail hR hc) h
  · exact valueM_lt hR.bit h

set_option maxRecDepth 100000 in
set_option maxHeartbeats 6400000 in
theorem variable_any {B : Nat} (g : Nat) (l : List Tk) (w : World) (h : Rd B w g l) (hBw : B ≤ w.heap.size) : Calls Tryz.prog 56 #[.pointer (some ⟨g, 0, none⟩)] w (PostVr B g w (variableR l)) := by
  have lg := h.lt
  have H57 : Hid (∀ u, Below w.heap.size w u → Calls Tryz.prog 57 #[.pointer (some ⟨g, 0, none⟩)] u (PostN B g u (nameR l))) := fun u hu => readName_any g l u (h.below hu)
  clear h
  obtain ⟨D, hD⟩ : ∃ D, Hid (D = variableR l) := ⟨_, (rfl : variableR l = _)⟩
  rw [← hD.out]
  unfold variableR at hD
  generalize nameR l = N at H57 hD
  go_enter Tryz.func56, Tryz.ntmps56
  go_wp2_with (first
    | ((with_reducible show wpList _ _ _ _ _ _); refine wpList_alloc_at rfl 48 rfl [.string ⟨#[]⟩, .int .u8 0, .int .u64 0] 3 z79 ?_; intro w1 hA1 hb1 hs1; clear hs1; refine Hid.out ?_))
  refine hidU ?_
  have C57 := H57.out w1 hb1
  have l01 := hA1.lt
  cases N with
  | bad e p =>
    have hD' : D = .bad e p := hD.out
    subst hD'
    go_wp2_with (go_at_call 57; refine C57.mono ?_; rintro r w2 ⟨hr, hb2⟩; unfold PanW at hr; subst hr)
    exact ⟨rfl, rfl, (But.of_below hb1).trans hb2⟩
  | ok x r1 =>
  have hD1 : Hid (D = (typeR r1).bind fun t r => (initR t r).bind fun v r => (mustR [59] r).bind fun _ r => .ok ⟨x, v.1, v.2⟩ r) := hD
  clear hD H57
  go_wp2_with (go_at_call 57; refine C57.mono ?_; rintro r w2 ⟨rfl, hR2, hb2⟩; refine Hid.out ?_)
  refine hidU ?_
  have hA1 := hb2.at hA1 (by omega)
  have hbt : But g w w2 := (But.of_below hb1).trans hb2
  have l12 := hb2.size
  clear C57 hb1 hb2
  have C94 := typeWord_any g r1 w2 hR2
  have hTl := @typeR_lt r1
  clear hR2
  generalize typeR r1 = N at C94 hD1 hTl
  cases N with
  | bad e p =>
    have hD' : D = .bad e p := hD1.out
    subst hD'
    clear hTl
    go_wp2_with (go_at_call 94; refine C94.mono ?_; rintro r w3 ⟨hr, hb3⟩; unfold PanW at hr; subst hr)
    exact ⟨rfl, rfl, hbt.trans hb3⟩
  | ok t r2 =>
  have htl : t < 256 := hTl rfl
  have hD2 : Hid (D = (initR t r2).bind fun v r => (mustR [59] r).bind fun _ r => .ok ⟨x, v.1, v.2⟩ r) := hD1
  clear hD1 hTl
  go_wp2_with (first
    | (go_at_call 94; refine C94.mono ?_; rintro r w3 ⟨rfl, hR3, hb3⟩)
    | ((with_reducible show wpList _ _ _ _ _ _); refine wpList_build_at rfl 40 _ rfl (val2 t 0) (by kernel_rfl) ?_)
    | ((with_reducible show wpList _ _ _ _ _ _); refine wpList_alloc_at rfl 40 rfl (val2 0 0) 2 z32 ?_; intro w4 hA4 hb4 hs4; clear hs4)
    | ((with_reducible show wpList _ _ _ _ _ _); refine wpList_store_at (P := Tryz.prog) rfl 40 (.tmp 4) (.tmp 9) rfl w3.heap.size (val2 t 0) rfl rfl 40 _ hA4 i32 rfl (one2 _ _) ?_; intro w5 hA5 hb5 hs5; clear hs5; refine Hid.out ?_))
  refine hidU ?_
  have h35 : Below w3.heap.size w3 w5 := hb5.below hb4 (Nat.le_refl _) hb4.size
  have l23 := hb3.size
  have l35 := hA5.lt
  have hA1 := (hb3.at hA1 (by omega)).below h35
  have hR5 := hR3.below h35
  have hbt := (hbt.trans hb3).trans (But.of_below h35)
  obtain ⟨gv, hgv⟩ : ∃ q, q = w3.heap.size := ⟨_, rfl⟩
  rw [← hgv] at hA5 l35 ⊢
  have lgv : w.heap.size < gv := by omega
  clear C94 hR3 hb3 hA4 hb4 hb5 h35 hgv l23
  have HF : Hid (∀ (vt vb : Nat) (r3 : List Tk) (X : World), At 48 X w.heap.size [.string ⟨#[]⟩, .int .u8 0, .int .u64 0] → At 40 X gv (val2 vt vb) → Rd B X g r3 → But g w X → vt < 256 ∧ vb < 18446744073709551616 → True) := fun _ _ _ _ _ _ _ _ _ => trivial
  clear HF
  by_cases hc : (hdT r2).text = [61]
  · have hi : initR t r2 = valueR t r2.tail := by unfold initR; rw [if_pos hc]
    rw [hi] at hD2
    have C55 := takes_yes g r2 ⟨#[61]⟩ (by decide) hc w5 hR5
    clear hi hc hR5
    generalize r2.tail = r2 at *
    go_wp2_with (go_at_call 55; refine C55.mono ?_; rintro r w6 ⟨rfl, hR6, hb6⟩; refine Hid.out ?_)
    refine hidU ?_
    have l56 := hb6.size
    have hA1 := hb6.at hA1 (by omega)
    have hA5 := hb6.at hA5 (by omega)
    have hbt := hbt.trans hb6
    have C95 := value95_any g t r2 w6 hR6 (by omega)
    have hVl := fun v r => @valueR_lt B w6 g t r2 r v hR6
    obtain ⟨c0, -⟩ := vl_cells hA5
    clear C55 hb6 hR6
    generalize valueR t r2 = N at C95 hD2 hVl
    cases N with
    | bad e p =>
      have hD' : D = .bad e p := hD2.out
      subst hD'
      clear hVl
      go_wp2_with (go_at_call 95; refine C95.mono ?_; rintro r w7 ⟨hr, hb7⟩; unfold PanW at hr; subst hr)
      exact ⟨rfl, rfl, hbt.trans hb7⟩
    | ok v r3 =>
    obtain ⟨vt, vb⟩ := v
    have hvl := hVl (vt, vb) r3 rfl
    have hD3 : Hid (D = (mustR [59] r3).bind fun _ r => .ok ⟨x, vt, vb⟩ r) := hD2
    clear hD2 hVl
    go_wp2_with (first
      | (go_at_call 95; refine C95.mono ?_; rintro r w7 ⟨rfl, hR7, hb7⟩; have hA5 := hb7.at hA5 (by omega))
      | ((with_reducible show wpList _ _ _ _ _ _); refine wpList_store_at (P := Tryz.prog) rfl 40 (.tmp 4) (.tmp 15) rfl gv (val2 vt vb) rfl rfl 40 _ hA5 i32 rfl (one2 _ _) ?_; intro w8 hA8 hb8 hs8; clear hs8; refine Hid.out ?_))
    refine hidU ?_
    have l67 := hb7.size
    have hA1 := hb8.at (hb7.at hA1 (by omega)) (by omega)
    have hR8 := hR7.but hb8 (by omega)
    have hbt := (hbt.trans hb7).fresh hb8 (by omega)
    have l78 := hb8.size
    clear C95 hR7 hb7 hb8 hA5 c0
    have C58 := must_any g r3 ⟨#[59]⟩ (by decide) w8 hR8
    have eb : bytes ⟨#[59]⟩ = [59] := rfl
    rw [eb] at C58
    clear eb hR8
    generalize mustR [59] r3 = N at C58 hD3
    cases N with
    | bad e p =>
      have hD' : D = .bad e p := hD3.out
      subst hD'
      go_wp2_with (go_at_call 58; refine C58.mono ?_; rintro r w9 ⟨hr, hb9⟩; unfold PanW at hr; subst hr)
      exact ⟨rfl, rfl, hbt.trans hb9⟩
    | ok u r4 =>
    have hD' : D = .ok ⟨x, vt, vb⟩ r4 := hD3.out
    subst hD'
    go_wp2_with (go_at_call 58; refine C58.mono ?_; rintro r w9 ⟨rfl, hR9, hb9⟩; refine Hid.out ?_)
    refine hidU ?_
    have hA1 := hb9.at hA1 (by omega)
    have hA5 := hb9.at hA8 (by omega)
    have hbt := hbt.trans hb9
    clear C58 hb9
    go_wp2_with (first
      | ((with_reducible show wpList _ _ _ _ _ _); refine wpList_load_at (P := Tryz.prog) rfl 40 (.tmp 4) rfl gv rfl 40 (val2 vt vb) hA5 _ Tryz.underlying40 rfl i32 ?_)
      | ((with_reducible show wpList _ _ _ _ _ _); refine wpList_build_at rfl 48 _ rfl (VT.cells ⟨⟨x.toArray⟩, vt, vb⟩) (by kernel_rfl) ?_)
      | ((with_reducible show wpList _ _ _ _ _ _); refine wpList_store_at (P := Tryz.prog) rfl 48 (.tmp 2) (.tmp 20) rfl w.heap.size (VT.cells ⟨⟨x.toArray⟩, vt, vb⟩) rfl rfl 48 _ hA1 i79 rfl (VT.one _) ?_; intro wE hAE hbE hsE))
    refine bodyPost_ret (results_at rfl _ _ w.heap.size 48 (VT.cells ⟨⟨x.toArray⟩, vt, vb⟩) _ rfl hAE Tryz.underlying48 rfl i79) rfl ?_
    exact ⟨rfl, hvl, hR9.but hbE hBw, hbt.fresh hbE (Nat.le_refl _)⟩

  · have hi : initR t r2 = .ok (t, 0) r2 := by unfold initR; rw [if_neg hc]
    rw [hi] at hD2
    have C55 := takes_no g r2 ⟨#[61]⟩ (by decide) hc w5 hR5
    have hD3 : Hid (D = (mustR [59] r2).bind fun _ r => .ok ⟨x, t, 0⟩ r) := hD2
    clear hi hc hR5 hD2
    go_wp2_with (go_at_call 55; refine C55.mono ?_; rintro r w6 ⟨rfl, hR6, hb6⟩; refine Hid.out ?_)
    refine hidU ?_
    have l56 := hb6.size
    have hA1 := hb6.at hA1 (by omega)
    have hA5 := hb6.at hA5 (by omega)
    have hbt := hbt.trans hb6
    clear C55 hb6
    have C58 := must_any g r2 ⟨#[59]⟩ (by decide) w6 hR6
    have eb : bytes ⟨#[59]⟩ = [59] := rfl
    rw [eb] at C58
    clear eb hR6
    generalize mustR [59] r2 = N at C58 hD3
    cases N with
    | bad e p =>
      have hD' : D = .bad e p := hD3.out
      subst hD'
      go_wp2_with (go_at_call 58; refine C58.mono ?_; rintro r w9 ⟨hr, hb9⟩; unfold PanW at hr; subst hr)
      exact ⟨rfl, rfl, hbt.trans hb9⟩
    | ok u r4 =>
    have hD' : D = .ok ⟨x, t, 0⟩ r4 := hD3.out
    subst hD'
    go_wp2_with (go_at_call 58; refine C58.mono ?_; rintro r w9 ⟨rfl, hR9, hb9⟩; refine Hid.out ?_)
    refine hidU ?_
    have hA1 := hb9.at hA1 (by omega)
    have hA5 := hb9.at hA5 (by omega)
    have hbt := hbt.trans hb9
    clear C58 hb9
    go_wp2_with (first
      | ((with_reducible show wpList _ _ _ _ _ _); refine wpList_load_at (P := Tryz.prog) rfl 40 (.tmp 4) rfl gv rfl 40 (val2 t 0) hA5 _ Tryz.underlying40 rfl i32 ?_)
      | ((with_reducible show wpList _ _ _ _ _ _); refine wpList_build_at rfl 48 _ rfl (VT.cells ⟨⟨x.toArray⟩, t, 0⟩) (by kernel_rfl) ?_)
      | ((with_reducible show wpList _ _ _ _ _ _); refine wpList_store_at (P := Tryz.prog) rfl 48 (.tmp 2) (.tmp 20) rfl w.heap.size (VT.cells ⟨⟨x.toArray⟩, t, 0⟩) rfl rfl 48 _ hA1 i79 rfl (VT.one _) ?_; intro wE hAE hbE hsE))
    refine bodyPost_ret (results_at rfl _ _ w.heap.size 48 (VT.cells ⟨⟨x.toArray⟩, t, 0⟩) _ rfl hAE Tryz.underlying48 rfl i79) rfl ?_
    exact ⟨rfl, ⟨htl, show (0 : Nat) < 18446744073709551616 by decide⟩, hR9.but hbE hBw, hbt.fresh hbE (Nat.le_refl _)⟩

end Go.Proofs.YtjgggmjjikopeaaGreatDoor

/- The reader of programs: statements without blocks. -/
namespace Go.Proofs.YtjgggmjjikopeaaGreatDoor
open Go.RowKit
set_option linter.unusedVariables false

mutual
theorem ST.Lies.and {S T : Nat → Prop} : ∀ {e : ST}, e.Lies S → e.Lies T → e.Lies (fun k => S k ∧ T k)
  | .mk _ _ e a1 _ b1 a2 _ b2, h, k => by
    unfold ST.Lies at h k ⊢
    exact ⟨h.1.and k.1, ⟨at_and h.2.1.1 k.2.1.1, ST.LiesL.and h.2.1.2 k.2.1.2⟩, at_and h.2.2.1 k.2.2.1, ST.LiesL.and h.2.2.2 k.2.2.2⟩
theorem ST.LiesL.and {S T : Nat → Prop} : ∀ {l : List ST}, ST.LiesL S l → ST.LiesL T l → ST.LiesL (fun k => S k ∧ T k) l
  | [], _, _ => trivial
  | e :: r, h, k => by
    unfold ST.LiesL at h k ⊢
    exact ⟨ST.Lies.and h.1 k.1, ST.LiesL.and h.2 k.2⟩
end
/-- A statement whose rows lie in blocks that may be written. -/
def ST.Sn (B : Nat) (w : World) (y : ST) : Prop := y.In B w ∧ y.Lies (Soft w)
/-- A row of statements that lies in blocks that may be written. -/
def RowSn (B : Nat) (w : World) (a : Option Addr) (c : Nat) (ys : List ST) : Prop := RowS B w a c ys ∧ (ys = [] ∨ ∃ g o, a = some ⟨g, o, none⟩ ∧ Soft w g) ∧ ST.LiesL (Soft w) ys
/-- A statement that lies whole in blocks from A on. -/
def Ts (A : Nat) (w : World) (y : ST) : Prop := y.Sn w.heap.size w ∧ y.Lies (fun k => A ≤ k)
mutual
theorem ST.In.up {B B' : Nat} {w : World} (hB : B ≤ B') : ∀ {s : ST}, s.In B w → s.In B' w
  | .mk k nm e a1 c1 body a2 c2 els, h => by
    unfold ST.In at h ⊢
    obtain ⟨h1, h2, ⟨h3, h4, h5⟩, h6, h7, h8⟩ := h
    refine ⟨h1, h2.up hB, ⟨h3, h4, ?_⟩, h6, h7, ?_⟩
    · rcases h5 with h5 | ⟨g, o, ha, hg, hr⟩
      · exact .inl h5
      · exact .inr ⟨g, o, ha, by omega, ST.Row.up hB hr⟩
    · rcases h8 with h8 | ⟨g, o, ha, hg, hr⟩
      · exact .inl h8
      · exact .inr ⟨g, o, ha, by omega, ST.Row.up hB hr⟩
theorem ST.Row.up {B B' : Nat} {w : World} (hB : B ≤ B') {g : Nat} : ∀ {ks : List ST} {o : Nat}, ST.Row B w g ks o → ST.Row B' w g ks o
  | [], o, _ => by unfold ST.Row; trivial
  | s :: r, o, h => by
    unfold ST.Row at h ⊢
    exact ⟨h.1, ST.In.up hB h.2.1, ST.Row.up hB h.2.2⟩
end
theorem ST.Sn.stay {B : Nat} {S : Nat → Prop} {w w' : World} {e : ST} (hM : ∀ k, S k → k < B → w'.heap[k]? = w.heap[k]?) (h : e.Sn B w) (u : e.Lies S) : e.Sn B w' :=
  ⟨ST.In.stay hM h.1 u, (ST.In.lies h.1 (u.and h.2)).mono fun k hk => hk.1.2.keep (hM k hk.1.1 hk.2)⟩
theorem ST.Sn.up {B C : Nat} {w : World} {e : ST} (hBC : B ≤ C) (h : e.Sn B w) : e.Sn C w := ⟨ST.In.up hBC h.1, h.2⟩
theorem ST.Sn.old {B : Nat} {w w' : World} {e : ST} (hO : Old B w w') (h : e.Sn B w) : e.Sn B w' :=
  ⟨ST.In.old hO h.1, (ST.In.lies h.1 h.2).mono fun k hk => hk.1.keep (hO k hk.2)⟩
theorem Ts.but {A k : Nat} {w w' : World} {y : ST} (h : Ts A w y) (hb : But k w w') (hk : k < A ∨ w.heap.size ≤ k) : Ts A w' y :=
  ⟨ST.Sn.up hb.size (ST.Sn.stay (S := fun j => A ≤ j) (fun j hj hl => hb.block j hl (by omega)) h.1 h.2), h.2⟩
theorem Ts.below {A : Nat} {w w' : World} {y : ST} (h : Ts A w y) (hb : Below w.heap.size w w') : Ts A w' y := h.but (But.of_below (g := w.heap.size) hb) (.inr (Nat.le_refl _))
theorem Ts.low {A A' : Nat} {w : World} {y : ST} (h : Ts A w y) (hA : A' ≤ A) : Ts A' w y := ⟨h.1, h.2.mono fun k hk => Nat.le_trans hA hk⟩
/-- What the readers of statements tell. -/
def PostS (B g : Nat) (w : World) (R : Rs St) (r : Ending) (w' : World) : Prop :=
  match R with
  | .ok s l => ∃ y : ST, r = .returned (.agg y.cells.toArray) ∧ y.st = s ∧ Ts w.heap.size w' y ∧ Rd B w' g l ∧ But g w w'
  | .bad e p => r = PanW e p ∧ But g w w'
/-- A row of statements that lies whole in blocks from A on. -/
def Tl (A : Nat) (w : World) (a : Option Addr) (c : Nat) (ys : List ST) : Prop := RowSn w.heap.size w a c ys ∧ (ys = [] ∨ ∃ g o, a = some ⟨g, o, none⟩ ∧ A ≤ g) ∧ ST.LiesL (fun k => A ≤ k) ys
/-- What the readers of blocks tell. -/
def PostL (B g : Nat) (w : World) (R : Rs (List St)) (r : Ending) (w' : World) : Prop :=
  match R with
  | .ok ss l => ∃ (a : Option Addr) (c : Nat) (ys : List ST), r = .returned (.slice a ys.length c) ∧ ys.map ST.st = ss ∧ Tl w.heap.size w' a c ys ∧ Rd B w' g l ∧ But g w w'
  | .bad e p => r = PanW e p ∧ But g w w'
theorem expr38_any {B : Nat} (g : Nat) (l : List Tk) (w : World) (h : Rd B w g l) (hBw : B ≤ w.heap.size) : Calls Tryz.prog 38 #[.pointer (some ⟨g, 0, none⟩), .int .i64 0] w (PostX B g w (exprR l)) :=
  exprX_any 0 l (exprR l) (by decide) ⟨_, exprR_row l⟩ B g w h hBw
theorem i51 (y : ST) : (Tryz.prog.info? 51).map (·.size) = some y.cells.length := by rw [ST.cells_len]; exact i38
theorem z51 : (Tryz.prog.info? 51).map (fun i => (i.zero, i.size)) = some (some (.agg (ST.cells (.mk 0 ⟨#[]⟩ (ET.mk 0 0 0 ⟨#[]⟩ none 0 []) none 0 [] none 0 [])).toArray), 9) := by kernel_rfl
theorem len51 (x y : ST) : x.cells.length = y.cells.length := by rw [ST.cells_len, ST.cells_len]
theorem simple_ts {A : Nat} {w : World} (k : Int) (hk : -9223372036854775808 ≤ k ∧ k ≤ 9223372036854775807) (nm : ByteArray) (e : ET) (he : Tw A w e) : Ts A w (.mk k nm e none 0 [] none 0 []) := by
  refine ⟨⟨?_, ?_⟩, ?_⟩
  · unfold ST.In
    exact ⟨hk, he.1.1, ⟨by simp, by simp, .inl rfl⟩, by simp, by simp, .inl rfl⟩
  · unfold ST.Lies
    exact ⟨he.1.2, ⟨.inl rfl, by unfold ST.LiesL; trivial⟩, .inl rfl, by unfold ST.LiesL; trivial⟩
  · unfold ST.Lies
    exact ⟨he.2, ⟨.inl rfl, by unfold ST.LiesL; trivial⟩, .inl rfl, by unfold ST.LiesL; trivial⟩

set_option maxRecDepth 100000 in
set_option maxHeartbeats 6400000 in
theorem simple_any {B : Nat} (g : Nat) (l : List Tk) (w : World) (h : Rd B w g l) (hBw : B ≤ w.heap.size) : Calls Tryz.prog 164 #[.pointer (some ⟨g, 0, none⟩)] w (PostS B g w (simpleR l)) := by
  have lg := h.lt
  obtain ⟨D, hD⟩ : ∃ D, Hid (D = simpleR l) := ⟨_, (rfl : simpleR l = _)⟩
  rw [← hD.out]
  unfold simpleR at hD
  have HR : Hid (Rd B w g l) := h
  clear h
  by_cases c0 : (hdT l).text = [108, 111, 99, 107]
  · rw [if_pos c0] at hD
    go_enter Tryz.func164, Tryz.ntmps164
    go_wp2_with (first
      | ((with_reducible show wpList _ _ _ _ _ _); refine wpList_alloc_at rfl 51 rfl (ST.cells (.mk 0 ⟨#[]⟩ (ET.mk 0 0 0 ⟨#[]⟩ none 0 []) none 0 [] none 0 [])) 9 z51 ?_; intro w1 hA1 hb1 hs1; clear hs1; refine Hid.out ?_))
    refine hidU ?_
    have l01 := hA1.lt
    have hR := HR.out.below hb1
    have hbt : But g w w1 := But.of_below hb1
    clear hb1 HR
    have C := takes_yes g l ⟨#[108, 111, 99, 107]⟩ (by decide) c0 w1 hR
    clear hR c0
    go_wp2_with (go_at_call 55; refine C.mono ?_; rintro r w2 ⟨rfl, hR, hb⟩; refine Hid.out ?_)
    refine hidU ?_
    have hA1 := hb.at hA1 (by omega)
    have hbt := hbt.trans hb
    have l2 := hb.size
    clear C hb
    have C := readName_any g l.tail w2 hR
    clear hR
    generalize nameR l.tail = N at C hD
    cases N with
    | bad e p =>
      have hD' : D = .bad e p := hD.out
      subst hD'
      go_wp2_with (go_at_call 57; refine C.mono ?_; rintro r wN ⟨hr, hb⟩; unfold PanW at hr; subst hr)
      exact ⟨rfl, rfl, hbt.trans hb⟩
    | ok x r1 =>
    have hD' : D = .ok (.mk 2 x noE [] []) r1 := hD.out
    subst hD'
    go_wp2_with (go_at_call 57; refine C.mono ?_; rintro r wN ⟨rfl, hR, hb⟩; refine Hid.out ?_)
    refine hidU ?_
    have hA1 := hb.at hA1 (by omega)
    have hbt := hbt.trans hb
    clear C hb
    go_wp2_with (first
      | ((with_reducible show wpList _ _ _ _ _ _); refine wpList_build_at rfl 51 _ rfl (ST.cells (ST.mk 2 ⟨x.toArray⟩ (ET.mk 0 0 0 ⟨#[]⟩ none 0 []) none 0 [] none 0 [])) (by kernel_rfl) ?_)
      | ((with_reducible show wpList _ _ _ _ _ _); refine wpList_store_at (P := Tryz.prog) rfl 51 (.tmp 2) (.tmp 9) rfl w.heap.size (ST.cells (ST.mk 2 ⟨x.toArray⟩ (ET.mk 0 0 0 ⟨#[]⟩ none 0 []) none 0 [] none 0 [])) rfl rfl 51 _ hA1 (i51 _) (len51 _ _) (ST.one _) ?_; intro wE hAE hbE hsE; clear hsE))
    refine bodyPost_ret (results_at rfl _ _ w.heap.size 51 (ST.cells (ST.mk 2 ⟨x.toArray⟩ (ET.mk 0 0 0 ⟨#[]⟩ none 0 []) none 0 [] none 0 [])) _ rfl hAE Tryz.underlying51 rfl (i51 _)) rfl ?_
    refine ⟨(ST.mk 2 ⟨x.toArray⟩ (ET.mk 0 0 0 ⟨#[]⟩ none 0 []) none 0 [] none 0 []), rfl, ?_, simple_ts _ (by decide) _ _ (noX_tw _ _), hR.but hbE hBw, hbt.fresh hbE (Nat.le_refl _)⟩
    unfold ST.st
    rfl
  rw [if_neg c0] at hD
  by_cases c1 : (hdT l).text = [117, 110, 108, 111, 99, 107]
  · rw [if_pos c1] at hD
    go_enter Tryz.func164, Tryz.ntmps164
    go_wp2_with (first
      | ((with_reducible show wpList _ _ _ _ _ _); refine wpList_alloc_at rfl 51 rfl (ST.cells (.mk 0 ⟨#[]⟩ (ET.mk 0 0 0 ⟨#[]⟩ none 0 []) none 0 [] none 0 [])) 9 z51 ?_; intro w1 hA1 hb1 hs1; clear hs1; refine Hid.out ?_))
    refine hidU ?_
    have l01 := hA1.lt
    have hR := HR.out.below hb1
    have hbt : But g w w1 := But.of_below hb1
    clear hb1 HR
    have C := takes_no g l ⟨#[108, 111, 99, 107]⟩ (by decide) c0 w1 hR
    clear hR c0
    go_wp2_with (go_at_call 55; refine C.mono ?_; rintro r w2 ⟨rfl, hR, hb⟩; refine Hid.out ?_)
    refine hidU ?_
    have hA1 := hb.at hA1 (by omega)
    have hbt := hbt.trans hb
    have l2 := hb.size
    clear C hb
    have C := takes_yes g l ⟨#[117, 110, 108, 111, 99, 107]⟩ (by decide) c1 w2 hR
    clear hR c1
    go_wp2_with (go_at_call 55; refine C.mono ?_; rintro r w3 ⟨rfl, hR, hb⟩; refine Hid.out ?_)
    refine hidU ?_
    have hA1 := hb.at hA1 (by omega)
    have hbt := hbt.trans hb
    have l3 := hb.size
    clear C hb
    have C := readName_any g l.tail w3 hR
    clear hR
    generalize nameR l.tail = N at C hD
    cases N with
    | bad e p =>
      have hD' : D = .bad e p := hD.out
      subst hD'
      go_wp2_with (go_at_call 57; refine C.mono ?_; rintro r wN ⟨hr, hb⟩; unfold PanW at hr; subst hr)
      exact ⟨rfl, rfl, hbt.trans hb⟩
    | ok x r1 =>
    have hD' : D = .ok (.mk 3 x noE [] []) r1 := hD.out
    subst hD'
    go_wp2_with (go_at_call 57; refine C.mono ?_; rintro r wN ⟨rfl, hR, hb⟩; refine Hid.out ?_)
    refine hidU ?_
    have hA1 := hb.at hA1 (by omega)
    have hbt := hbt.trans hb
    clear C hb
    go_wp2_with (first
      | ((with_reducible show wpList _ _ _ _ _ _); refine wpList_build_at rfl 51 _ rfl (ST.cells (ST.mk 3 ⟨x.toArray⟩ (ET.mk 0 0 0 ⟨#[]⟩ none 0 []) none 0 [] none 0 [])) (by kernel_rfl) ?_)
      | ((with_reducible show wpList _ _ _ _ _ _); refine wpList_store_at (P := Tryz.prog) rfl 51 (.tmp 2) (.tmp 15) rfl w.heap.size (ST.cells (ST.mk 3 ⟨x.toArray⟩ (ET.mk 0 0 0 ⟨#[]⟩ none 0 []) none 0 [] none 0 [])) rfl rfl 51 _ hA1 (i51 _) (len51 _ _) (ST.one _) ?_; intro wE hAE hbE hsE; clear hsE))
    refine bodyPost_ret (results_at rfl _ _ w.heap.size 51 (ST.cells (ST.mk 3 ⟨x.toArray⟩ (ET.mk 0 0 0 ⟨#[]⟩ none 0 []) none 0 [] none 0 [])) _ rfl hAE Tryz.underlying51 rfl (i51 _)) rfl ?_
    refine ⟨(ST.mk 3 ⟨x.toArray⟩ (ET.mk 0 0 0 ⟨#[]⟩ none 0 []) none 0 [] none 0 []), rfl, ?_, simple_ts _ (by decide) _ _ (noX_tw _ _), hR.but hbE hBw, hbt.fresh hbE (Nat.le_refl _)⟩
    unfold ST.st
    rfl
  rw [if_neg c1] at hD
  by_cases c2 : (hdT l).text = [97, 115, 115, 101, 114, 116]
  · rw [if_pos c2] at hD
    go_enter Tryz.func164, Tryz.ntmps164
    go_wp2_with (first
      | ((with_reducible show wpList _ _ _ _ _ _); refine wpList_alloc_at rfl 51 rfl (ST.cells (.mk 0 ⟨#[]⟩ (ET.mk 0 0 0 ⟨#[]⟩ none 0 []) none 0 [] none 0 [])) 9 z51 ?_; intro w1 hA1 hb1 hs1; clear hs1; refine Hid.out ?_))
    refine hidU ?_
    have l01 := hA1.lt
    have hR := HR.out.below hb1
    have hbt : But g w w1 := But.of_below hb1
    clear hb1 HR
    have C := takes_no g l ⟨#[108, 111, 99, 107]⟩ (by decide) c0 w1 hR
    clear hR c0
    go_wp2_with (go_at_call 55; refine C.mono ?_; rintro r w2 ⟨rfl, hR, hb⟩; refine Hid.out ?_)
    refine hidU ?_
    have hA1 := hb.at hA1 (by omega)
    have hbt := hbt.trans hb
    have l2 := hb.size
    clear C hb
    have C := takes_no g l ⟨#[117, 110, 108, 111, 99, 107]⟩ (by decide) c1 w2 hR
    clear hR c1
    go_wp2_with (go_at_call 55; refine C.mono ?_; rintro r w3 ⟨rfl, hR, hb⟩; refine Hid.out ?_)
    refine hidU ?_
    have hA1 := hb.at hA1 (by omega)
    have hbt := hbt.trans hb
    have l3 := hb.size
    clear C hb
    have C := takes_yes g l ⟨#[97, 115, 115, 101, 114, 116]⟩ (by decide) c2 w3 hR
    clear hR c2
    go_wp2_with (go_at_call 55; refine C.mono ?_; rintro r w4 ⟨rfl, hR, hb⟩; refine Hid.out ?_)
    refine hidU ?_
    have hA1 := hb.at hA1 (by omega)
    have hbt := hbt.trans hb
    have l4 := hb.size
    clear C hb
    have C := expr38_any g l.tail w4 hR (by omega)
    clear hR
    generalize exprR l.tail = N at C hD
    cases N with
    | bad e p =>
      have hD' : D = .bad e p := hD.out
      subst hD'
      go_wp2_with (go_at_call 38; refine C.mono ?_; rintro r wN ⟨hr, hb⟩; unfold PanW at hr; subst hr)
      exact ⟨rfl, rfl, hbt.trans hb⟩
    | ok x r1 =>
    have hD' : D = .ok (.mk 4 [] x [] []) r1 := hD.out
    subst hD'
    go_wp2_with (go_at_call 38; refine C.mono ?_; rintro r wN ⟨y, rfl, hye, hyt, hR, hb⟩; refine Hid.out ?_)
    refine hidU ?_
    have hA1 := hb.at hA1 (by omega)
    have hbt := hbt.trans hb
    have lN := hb.size
    clear C hb
    go_wp2_with (first
      | ((with_reducible show wpList _ _ _ _ _ _); refine wpList_build_at rfl 51 _ rfl (ST.cells (ST.mk 4 ⟨#[]⟩ y none 0 [] none 0 [])) (by cases y; kernel_rfl) ?_)
      | ((with_reducible show wpList _ _ _ _ _ _); refine wpList_store_at (P := Tryz.prog) rfl 51 (.tmp 2) (.tmp 21) rfl w.heap.size (ST.cells (ST.mk 4 ⟨#[]⟩ y none 0 [] none 0 [])) rfl rfl 51 _ hA1 (i51 _) (len51 _ _) (ST.one _) ?_; intro wE hAE hbE hsE; clear hsE))
    refine bodyPost_ret (results_at rfl _ _ w.heap.size 51 (ST.cells (ST.mk 4 ⟨#[]⟩ y none 0 [] none 0 [])) _ rfl hAE Tryz.underlying51 rfl (i51 _)) rfl ?_
    refine ⟨(ST.mk 4 ⟨#[]⟩ y none 0 [] none 0 []), rfl, ?_, simple_ts _ (by decide) _ _ ((hyt.but hbE (.inl (by omega))).low (by omega)), hR.but hbE hBw, hbt.fresh hbE (Nat.le_refl _)⟩
    unfold ST.st
    rw [hye]
    rfl
  rw [if_neg c2] at hD
  by_cases c3 : (hdT l).text = [115, 107, 105, 112]
  · rw [if_pos c3] at hD
    go_enter Tryz.func164, Tryz.ntmps164
    go_wp2_with (first
      | ((with_reducible show wpList _ _ _ _ _ _); refine wpList_alloc_at rfl 51 rfl (ST.cells (.mk 0 ⟨#[]⟩ (ET.mk 0 0 0 ⟨#[]⟩ none 0 []) none 0 [] none 0 [])) 9 z51 ?_; intro w1 hA1 hb1 hs1; clear hs1; refine Hid.out ?_))
    refine hidU ?_
    have l01 := hA1.lt
    have hR := HR.out.below hb1
    have hbt : But g w w1 := But.of_below hb1
    clear hb1 HR
    have C := takes_no g l ⟨#[108, 111, 99, 107]⟩ (by decide) c0 w1 hR
    clear hR c0
    go_wp2_with (go_at_call 55; refine C.mono ?_; rintro r w2 ⟨rfl, hR, hb⟩; refine Hid.out ?_)
    refine hidU ?_
    have hA1 := hb.at hA1 (by omega)
    have hbt := hbt.trans hb
    have l2 := hb.size
    clear C hb
    have C := takes_no g l ⟨#[117, 110, 108, 111, 99, 107]⟩ (by decide) c1 w2 hR
    clear hR c1
    go_wp2_with (go_at_call 55; refine C.mono ?_; rintro r w3 ⟨rfl, hR, hb⟩; refine Hid.out ?_)
    refine hidU ?_
    have hA1 := hb.at hA1 (by omega)
    have hbt := hbt.trans hb
    have l3 := hb.size
    clear C hb
    have C := takes_no g l ⟨#[97, 115, 115, 101, 114, 116]⟩ (by decide) c2 w3 hR
    clear hR c2
    go_wp2_with (go_at_call 55; refine C.mono ?_; rintro r w4 ⟨rfl, hR, hb⟩; refine Hid.out ?_)
    refine hidU ?_
    have hA1 := hb.at hA1 (by omega)
    have hbt := hbt.trans hb
    have l4 := hb.size
    clear C hb
    have C := takes_yes g l ⟨#[115, 107, 105, 112]⟩ (by decide) c3 w4 hR
    clear hR c3
    go_wp2_with (go_at_call 55; refine C.mono ?_; rintro r w5 ⟨rfl, hR, hb⟩; refine Hid.out ?_)
    refine hidU ?_
    have hA1 := hb.at hA1 (by omega)
    have hbt := hbt.trans hb
    have l5 := hb.size
    clear C hb
    have hD' : D = .ok (.mk 7 [] noE [] []) l.tail := hD.out
    subst hD'
    go_wp2_with (first
      | ((with_reducible show wpList _ _ _ _ _ _); refine wpList_build_at rfl 51 _ rfl (ST.cells (ST.mk 7 ⟨#[]⟩ (ET.mk 0 0 0 ⟨#[]⟩ none 0 []) none 0 [] none 0 [])) (by kernel_rfl) ?_)
      | ((with_reducible show wpList _ _ _ _ _ _); refine wpList_store_at (P := Tryz.prog) rfl 51 (.tmp 2) (.tmp 25) rfl w.heap.size (ST.cells (ST.mk 7 ⟨#[]⟩ (ET.mk 0 0 0 ⟨#[]⟩ none 0 []) none 0 [] none 0 [])) rfl rfl 51 _ hA1 (i51 _) (len51 _ _) (ST.one _) ?_; intro wE hAE hbE hsE; clear hsE))
    refine bodyPost_ret (results_at rfl _ _ w.heap.size 51 (ST.cells (ST.mk 7 ⟨#[]⟩ (ET.mk 0 0 0 ⟨#[]⟩ none 0 []) none 0 [] none 0 [])) _ rfl hAE Tryz.underlying51 rfl (i51 _)) rfl ?_
    refine ⟨(ST.mk 7 ⟨#[]⟩ (ET.mk 0 0 0 ⟨#[]⟩ none 0 []) none 0 [] none 0 []), rfl, ?_, simple_ts _ (by decide) _ _ (noX_tw _ _), hR.but hbE hBw, hbt.fresh hbE (Nat.le_refl _)⟩
    unfold ST.st
    rfl
  rw [if_neg c3] at hD
  go_enter Tryz.func164, Tryz.ntmps164
  go_wp2_with (first
    | ((with_reducible show wpList _ _ _ _ _ _); refine wpList_alloc_at rfl 51 rfl (ST.cells (.mk 0 ⟨#[]⟩ (ET.mk 0 0 0 ⟨#[]⟩ none 0 []) none 0 [] none 0 [])) 9 z51 ?_; intro w1 hA1 hb1 hs1; clear hs1; refine Hid.out ?_))
  refine hidU ?_
  have l01 := hA1.lt
  have hR := HR.out.below hb1
  have hbt : But g w w1 := But.of_below hb1
  clear hb1 HR
  have C := takes_no g l ⟨#[108, 111, 99, 107]⟩ (by decide) c0 w1 hR
  clear hR c0
  go_wp2_with (go_at_call 55; refine C.mono ?_; rintro r w2 ⟨rfl, hR, hb⟩; refine Hid.out ?_)
  refine hidU ?_
  have hA1 := hb.at hA1 (by omega)
  have hbt := hbt.trans hb
  have l2 := hb.size
  clear C hb
  have C := takes_no g l ⟨#[117, 110, 108, 111, 99, 107]⟩ (by decide) c1 w2 hR
  clear hR c1
  go_wp2_with (go_at_call 55; refine C.mono ?_; rintro r w3 ⟨rfl, hR, hb⟩; refine Hid.out ?_)
  refine hidU ?_
  have hA1 := hb.at hA1 (by omega)
  have hbt := hbt.trans hb
  have l3 := hb.size
  clear C hb
  have C := takes_no g l ⟨#[97, 115, 115, 101, 114, 116]⟩ (by decide) c2 w3 hR
  clear hR c2
  go_wp2_with (go_at_call 55; refine C.mono ?_; rintro r w4 ⟨rfl, hR, hb⟩; refine Hid.out ?_)
  refine hidU ?_
  have hA1 := hb.at hA1 (by omega)
  have hbt := hbt.trans hb
  have l4 := hb.size
  clear C hb
  have C := takes_no g l ⟨#[115, 107, 105, 112]⟩ (by decide) c3 w4 hR
  clear hR c3
  go_wp2_with (go_at_call 55; refine C.mono ?_; rintro r w5 ⟨rfl, hR, hb⟩; refine Hid.out ?_)
  refine hidU ?_
  have hA1 := hb.at hA1 (by omega)
  have hbt := hbt.trans hb
  have l5 := hb.size
  clear C hb
  have C := readName_any g l w5 hR
  clear hR
  generalize nameR l = N at C hD
  cases N with
  | bad e p =>
    have hD' : D = .bad e p := hD.out
    subst hD'
    go_wp2_with (go_at_call 57; refine C.mono ?_; rintro r wN ⟨hr, hb⟩; unfold PanW at hr; subst hr)
    exact ⟨rfl, rfl, hbt.trans hb⟩
  | ok x r1 =>
  have hD1 : Hid (D = (mustR [61] r1).bind fun _ r => (exprR r).bind fun e r => .ok (.mk 1 x e [] []) r) := hD
  go_wp2_with (go_at_call 57; refine C.mono ?_; rintro r wN ⟨rfl, hR, hb⟩; refine Hid.out ?_)
  refine hidU ?_
  have hA1 := hb.at hA1 (by omega)
  have hbt := hbt.trans hb
  have l6 := hb.size
  clear C hb hD
  have C := must_any g r1 ⟨#[61]⟩ (by decide) wN hR
  have eb : bytes ⟨#[61]⟩ = [61] := rfl
  rw [eb] at C
  clear hR eb
  generalize mustR [61] r1 = N at C hD1
  cases N with
  | bad e p =>
    have hD' : D = .bad e p := hD1.out
    subst hD'
    go_wp2_with (go_at_call 58; refine C.mono ?_; rintro r wM ⟨hr, hb⟩; unfold PanW at hr; subst hr)
    exact ⟨rfl, rfl, hbt.trans hb⟩
  | ok u r2 =>
  have hD2 : Hid (D = (exprR r2).bind fun e r => .ok (.mk 1 x e [] []) r) := hD1
  go_wp2_with (go_at_call 58; refine C.mono ?_; rintro r wM ⟨rfl, hR, hb⟩; refine Hid.out ?_)
  refine hidU ?_
  have hA1 := hb.at hA1 (by omega)
  have hbt := hbt.trans hb
  have l7 := hb.size
  clear C hb hD1
  have C := expr38_any g r2 wM hR (by omega)
  clear hR
  generalize exprR r2 = N at C hD2
  cases N with
  | bad e p =>
    have hD' : D = .bad e p := hD2.out
    subst hD'
    go_wp2_with (go_at_call 38; refine C.mono ?_; rintro r wX ⟨hr, hb⟩; unfold PanW at hr; subst hr)
    exact ⟨rfl, rfl, hbt.trans hb⟩
  | ok e r3 =>
  have hD' : D = .ok (.mk 1 x e [] []) r3 := hD2.out
  subst hD'
  go_wp2_with (go_at_call 38; refine C.mono ?_; rintro r wX ⟨y, rfl, hye, hyt, hR, hb⟩; refine Hid.out ?_)
  refine hidU ?_
  have hA1 := hb.at hA1 (by omega)
  have hbt := hbt.trans hb
  have l8 := hb.size
  clear C hb
  go_wp2_with (first
    | ((with_reducible show wpList _ _ _ _ _ _); refine wpList_build_at rfl 51 _ rfl (ST.cells (ST.mk 1 ⟨x.toArray⟩ y none 0 [] none 0 [])) (by cases y; kernel_rfl) ?_)
    | ((with_reducible show wpList _ _ _ _ _ _); refine wpList_store_at (P := Tryz.prog) rfl 51 (.tmp 2) (.tmp 33) rfl w.heap.size (ST.cells (ST.mk 1 ⟨x.toArray⟩ y none 0 [] none 0 [])) rfl rfl 51 _ hA1 (i51 _) (len51 _ _) (ST.one _) ?_; intro wE hAE hbE hsE; clear hsE))
  refine bodyPost_ret (results_at rfl _ _ w.heap.size 51 (ST.cells (ST.mk 1 ⟨x.toArray⟩ y none 0 [] none 0 [])) _ rfl hAE Tryz.underlying51 rfl (i51 _)) rfl ?_
  refine ⟨(ST.mk 1 ⟨x.toArray⟩ y none 0 [] none 0 []), rfl, ?_, simple_ts _ (by decide) _ _ ((hyt.but hbE (.inl (by omega))).low (by omega)), hR.but hbE hBw, hbt.fresh hbE (Nat.le_refl _)⟩
  unfold ST.st
  rw [hye]
  rfl
end Go.Proofs.YtjgggmjjikopeaaGreatDoor

/- Rows that grow by append, of elements that own rows themselves. -/
namespace Go.Proofs.YtjgggmjjikopeaaGreatDoor
open Go.RowKit
set_option linter.unusedVariables false

theorem flat_cells_at {α : Type} (cl : α → List Value) (n : Nat) (hlen : ∀ y, (cl y).length = n) : ∀ (ys : List α) (i : Nat) (y : α), ys[i]? = some y → ∀ j v, (cl y)[j]? = some v → (ys.flatMap cl)[i * n + j]? = some v
  | [], i, y, h => by simp at h
  | x :: r, 0, y, h => by
    simp at h
    subst h
    intro j v hj
    rw [List.flatMap_cons, Nat.zero_mul, Nat.zero_add, List.getElem?_append_left (List.getElem?_eq_some_iff.1 hj).1]
    exact hj
  | x :: r, i + 1, y, h => by
    intro j v hj
    rw [List.flatMap_cons, List.getElem?_append_right (by rw [hlen, Nat.add_mul]; omega), hlen, show (i + 1) * n + j - n = i * n + j by rw [Nat.add_mul]; omega]
    exact flat_cells_at cl n hlen r i y h j v hj
/-- Cells are stored into a known block. -/
theorem At.setCells {t : TypeId} {g : Nat} : ∀ (news : List Value) (o : Nat) (w : World) (cs : List Value), At t w g cs → o + news.length ≤ cs.length → At t (w.setCells g o news) g (cs.take o ++ news ++ cs.drop (o + news.length))
  | [], o, w, cs, h, hl => by
    simp only [World.setCells, List.append_nil, List.length_nil, Nat.add_zero, List.take_append_drop]
    exact h
  | v :: r, o, w, cs, h, hl => by
    have hl' : o + (r.length + 1) ≤ cs.length := hl
    have h2 := At.setCells r (o + 1) (w.setCell ⟨g, o, none⟩ v) (cs.set o v) (h.set o v) (by rw [List.length_set]; omega)
    have e : (cs.set o v).take (o + 1) ++ r ++ (cs.set o v).drop (o + 1 + r.length) = cs.take o ++ (v :: r) ++ cs.drop (o + (v :: r).length) := by
      rw [List.drop_set_of_lt (by omega), List.length_cons, show o + (r.length + 1) = o + 1 + r.length by omega]
      have e1 : (cs.set o v).take (o + 1) = cs.take o ++ [v] := by
        rw [List.take_set, List.set_eq_take_append_cons_drop, if_pos (by rw [List.length_take]; omega)]
        rw [List.take_take, Nat.min_eq_left (by omega)]
        congr 2
        apply List.eq_nil_of_length_eq_zero
        rw [List.length_drop, List.length_take]
        omega
      rw [e1]
      simp
    rw [e] at h2
    exact h2
theorem But.setCells {g : Nat} {a : World} : ∀ (news : List Value) (o : Nat) (w : World), But g a w → But g a (w.setCells g o news)
  | [], o, w, h => h
  | v :: r, o, w, h => But.setCells r (o + 1) _ (h.setCell o v)

theorem At.ne {t t' : TypeId} {w : World} {g g' : Nat} {cs cs' : List Value} (h : At t w g cs) (h' : At t' w g' cs') (ht : t ≠ t') : g ≠ g' := by
  rintro rfl
  unfold At at h h'
  rw [h] at h'
  injection h' with h'
  injection h' with _ e _
  exact ht e
theorem At.belowA {t : TypeId} {w w' : World} {g A : Nat} {cs : List Value} (h : At t w g cs) (hb : Below A w w') (hg : g < A) : At t w' g cs := (hb.block g hg).trans h
theorem own_stay {w w' : World} {A E sz n : Nat} {v : Value} {xs : List Value} (h : w.ownsRow A E sz v n xs) (hk : ∀ k, v.ownBlock = some k → w'.heap[k]? = w.heap[k]?) : w'.ownsRow A E sz v n xs := by
  obtain ⟨h1, h2 | ⟨g, cap, cur, hv, hg, hc, h3⟩⟩ := h
  · exact ⟨h1, .inl h2⟩
  · exact ⟨h1, .inr ⟨g, cap, cur, hv, hg, (hk g (by rw [hv]; rfl)).trans hc, h3⟩⟩
/-- What the elements of a row are. -/
structure Elt (α δ : Type) where
  cl : α → List Value
  n : Nat
  E : TypeId
  hlen : ∀ y, (cl y).length = n
  hone : ∀ y, ∀ v ∈ cl y, v.oneCell' = true
  dat : α → δ
  In : Nat → World → α → Prop
  Lies : (Nat → Prop) → α → Prop
  mono : ∀ {S T : Nat → Prop} {y : α}, Lies S y → (∀ k, S k → T k) → Lies T y
  stay : ∀ {S : Nat → Prop} {B B' : Nat} {w w' : World} {y : α}, In B w y → Lies S y → B ≤ B' → (∀ k, S k → k < B → w'.heap[k]? = w.heap[k]?) → In B' w' y
  lies : ∀ {S T : Nat → Prop} {B : Nat} {w : World} {y : α}, In B w y → Lies S y → (∀ k, S k → k < B → T k) → Lies T y
  zk : Value → Prop
/-- What stands in a row's room. -/
class Zk {α δ : Type} (e : Elt α δ) (z : Value) : Prop where
  zk : ∀ u ∈ z.cells.toList, e.zk u
/-- A row that grows. -/
structure Gr {α δ : Type} (e : Elt α δ) (A : Nat) (w : World) (v : Value) (ys : List α) : Prop where
  own : w.ownsRow A e.E e.n v ys.length (ys.flatMap e.cl)
  ins : ∀ y ∈ ys, e.In w.heap.size w y
  off : ∀ y ∈ ys, e.Lies (fun k => A ≤ k ∧ some k ≠ v.ownBlock) y
  size : A ≤ w.heap.size
  room : ∀ k, v.ownBlock = some k → ∀ o u, ys.length * e.n ≤ o → w.cell? ⟨k, o, none⟩ = some u → e.zk u
  nl : ys = [] → v = .slice none 0 0
section
variable {α δ : Type} {e : Elt α δ} {A : Nat} {w w' : World} {v : Value} {ys : List α}
theorem Gr.nil (h : A ≤ w.heap.size) : Gr e A w (.slice none 0 0) [] := ⟨World.ownsRow_nil w A e.E e.n, fun _ h => (by cases h), fun _ h => (by cases h), h, fun _ h => (by cases h), fun _ => rfl⟩
theorem Gr.keep (h : Gr e A w v ys) (hs : w.heap.size ≤ w'.heap.size) (hM : ∀ k, A ≤ k → k < w.heap.size → w'.heap[k]? = w.heap[k]?) : Gr e A w' v ys :=
  ⟨own_stay h.own fun k hk => hM k (h.own.lt k hk).1 (h.own.lt k hk).2, fun y hy => e.stay (h.ins y hy) (h.off y hy) hs fun k hk hl => hM k hk.1 hl, h.off, Nat.le_trans h.size hs, fun k hk o u ho hu => h.room k hk o u ho (by rw [← hu]; exact (World.cell?_of_block (w := w) (hM k (h.own.lt k hk).1 (h.own.lt k hk).2)).symm), h.nl⟩
theorem Gr.below (h : Gr e A w v ys) (hb : Below w.heap.size w w') : Gr e A w' v ys := h.keep hb.size fun k _ hk => hb.block k hk
theorem Gr.but {g : Nat} (h : Gr e A w v ys) (hb : But g w w') (hg : g < A) : Gr e A w' v ys := h.keep hb.size fun k h1 hk => hb.block k hk (by omega)
/-- What is made later lies off the row. -/
theorem Gr.fresh (h : Gr e A w v ys) {y : α} (hy : e.Lies (fun k => w.heap.size ≤ k) y) : e.Lies (fun k => A ≤ k ∧ some k ≠ v.ownBlock) y :=
  e.mono hy fun k hk => ⟨Nat.le_trans h.size hk, fun q => by have := (h.own.lt k q.symm).2; omega⟩
theorem Gr.app {y : α} {g cap : Nat} (h : Gr e A w v ys) (hi : e.In w.heap.size w y) (hy : e.Lies (fun k => A ≤ k ∧ some k ≠ v.ownBlock) y)
    (ho : w'.ownsRow A e.E e.n (.slice (some ⟨g, 0, none⟩) (ys.length + 1) cap) (ys.length + 1) (ys.flatMap e.cl ++ e.cl y)) (hg : w.grownBy w' v.ownBlock) (hw : v.ownBlock = some g ∨ g = w.heap.size) (hrm : ∀ o u, (ys.length + 1) * e.n ≤ o → w'.cell? ⟨g, o, none⟩ = some u → e.zk u) :
    Gr e A w' (.slice (some ⟨g, 0, none⟩) (ys.length + 1) cap) (ys ++ [y]) := by
  have hin : ∀ z : α, e.In w.heap.size w z → e.Lies (fun k => A ≤ k ∧ some k ≠ v.ownBlock) z → e.In w'.heap.size w' z := fun z h1 h2 => e.stay h1 h2 hg.size fun k hk hl => hg.block k hl hk.2
  have hoff : ∀ z : α, e.In w.heap.size w z → e.Lies (fun k => A ≤ k ∧ some k ≠ v.ownBlock) z → e.Lies (fun k => A ≤ k ∧ some k ≠ (Value.slice (some ⟨g, 0, none⟩) (ys.length + 1) cap).ownBlock) z := fun z h1 h2 => by
    refine e.lies h1 h2 fun k hk hl => ⟨hk.1, fun q => ?_⟩
    have e1 : some k = some g := q
    cases e1
    rcases hw with q | q
    · exact hk.2 q.symm
    · omega
  refine ⟨?_, fun z hz => ?_, fun z hz => ?_, Nat.le_trans h.size hg.size, fun k hk o u ho hu => ?_, fun q => by simp at q⟩
  · rw [List.flatMap_append, List.flatMap_cons, List.flatMap_nil, List.append_nil, List.length_append]
    exact ho
  · rcases List.mem_append.1 hz with q | q
    · exact hin z (h.ins z q) (h.off z q)
    · rw [List.mem_singleton.1 q]; exact hin y hi hy
  · rcases List.mem_append.1 hz with q | q
    · exact hoff z (h.ins z q) (h.off z q)
    · rw [List.mem_singleton.1 q]; exact hoff y hi hy
  · have e1 : g = k := Option.some.inj hk
    subst e1
    rw [List.length_append] at ho
    exact hrm o u ho hu
/-- 'out = append(out, y)'. -/
theorem wp_grow {o : Oper} {a : Act} {K : Act → World → Prop} {Q : Exit → Act → World → Prop} (s x : Operand) (T : TypeId) (z : Value) [Zk e z] (bytes : Nat) (ho : o.op = .call { callee := .builtin .append, args := #[s, x], argTypes := #[T, T] })
    (ht : Tryz.prog.underlying T = some (.slice e.E)) (hif : (Tryz.prog.info? e.E).map (fun i => (i.zero, i.size, i.bytes)) = some (some z, e.n, bytes)) (hzs : z.cells.size = e.n) (hsz : 0 < e.n)
    (hs : a.eval s = v) (b : Nat) (hx : a.eval x = .slice (some ⟨b, 0, none⟩) 1 1) (h : Gr e A w v ys) (y : α) (hA : At e.E w b (e.cl y)) (hi : e.In w.heap.size w y) (hy : e.Lies (fun k => A ≤ k ∧ some k ≠ v.ownBlock) y)
    (k : Nat) (hk : ys.length = k) (hl : k ≤ 1048576) (hby : bytes ≤ 1024)
    (hK : ∀ g cap w', Gr e A w' (.slice (some ⟨g, 0, none⟩) (k + 1) cap) (ys ++ [y]) → Below A w w' → K (a.put o.dst (.slice (some ⟨g, 0, none⟩) (k + 1) cap)) w') : o.wp Tryz.prog a w K Q := by
  obtain ⟨i0, hi0, hz0, hz1, hz2⟩ := info_parts hif
  subst hk
  refine wp_append_rest (P := Tryz.prog) w s x T ho A e.E i0 z e.n bytes ht hi0 hz0 hz1 hz2 hzs hsz v ys.length (ys.flatMap e.cl) hs h.own ⟨b, 0, none⟩ 1 1 (e.cl y) hx (by rw [e.hlen, Nat.one_mul]) (fun j u hj => ?_) (e.hone y) (by decide) (by unfold maxLen; omega) (by have : (ys.length + 1) * bytes ≤ 1048577 * 1024 := Nat.mul_le_mul (by omega) hby; omega) h.size e.zk h.room Zk.zk ?_
  · rw [Addr.add_mid, Nat.zero_add, hA.cell]; exact hj
  · intro g cap w' h1 h2 h3 h4
    exact hK g cap w' (h.app hi hy h1 h2 h3 h4) ((Below.refl A w).grown h2 h.size fun k hk => (h.own.lt k hk).1)
theorem wpList_grow {ops : Array Oper} {rest : List Oper} {o : Oper} {a : Act} {Q : Exit → Act → World → Prop} (hgd : o.guard = none) (s x : Operand) (T : TypeId) (z : Value) [Zk e z] (bytes : Nat) (ho : o.op = .call { callee := .builtin .append, args := #[s, x], argTypes := #[T, T] })
    (ht : Tryz.prog.underlying T = some (.slice e.E)) (hif : (Tryz.prog.info? e.E).map (fun i => (i.zero, i.size, i.bytes)) = some (some z, e.n, bytes)) (hzs : z.cells.size = e.n) (hsz : 0 < e.n)
    (hs : a.eval s = v) (b : Nat) (hx : a.eval x = .slice (some ⟨b, 0, none⟩) 1 1) (h : Gr e A w v ys) (y : α) (hA : At e.E w b (e.cl y)) (hi : e.In w.heap.size w y) (hy : e.Lies (fun k => A ≤ k ∧ some k ≠ v.ownBlock) y)
    (k : Nat) (hk : ys.length = k) (hl : k ≤ 1048576) (hby : bytes ≤ 1024)
    (hK : ∀ g cap w', Gr e A w' (.slice (some ⟨g, 0, none⟩) (k + 1) cap) (ys ++ [y]) → Below A w w' → wpList Tryz.prog ops Q rest (a.put o.dst (.slice (some ⟨g, 0, none⟩) (k + 1) cap)) w') : wpList Tryz.prog ops Q (o :: rest) a w :=
  wpList_plain hgd fun _ hK' => wp_grow s x T z bytes ho ht hif hzs hsz hs b hx h y hA hi hy k hk hl hby fun g cap w' h1 h2 => hK' _ _ (hK g cap w' h1 h2)
end

def eS : Elt ST St := ⟨ST.cells, 9, 51, ST.cells_len, ST.one, ST.st, fun B w x => x.Sn B w, fun S x => x.Lies S, fun h k => ST.Lies.mono k h, fun h1 h2 h3 h4 => ST.Sn.up h3 (ST.Sn.stay h4 h1 h2), fun h1 h2 h3 => ST.Lies.mono (fun k hk => h3 k hk.1 hk.2) (ST.In.lies h1.1 h2), fun _ => True⟩
def eV : Elt VT Vr := ⟨VT.cells, 3, 48, fun _ => rfl, VT.one, VT.vr, fun B w x => x.In B w, fun _ _ => True, fun _ _ => trivial, fun h _ _ _ => h, fun _ _ _ => trivial, fun _ => True⟩
def eN : Elt ByteArray (List UInt8) := ⟨fun m => [.string m], 1, 9, fun _ => rfl, fun _ v hv => by simp at hv; subst hv; rfl, fun m => m.data.toList, fun _ _ _ => True, fun _ _ => True, fun _ _ => trivial, fun _ _ _ _ => trivial, fun _ _ _ => trivial, fun u => u = .string ⟨#[]⟩⟩
theorem f51 : (Tryz.prog.info? 51).map (fun i => (i.zero, i.size, i.bytes)) = some (some ((Tryz.prog.info? 51).bind (·.zero) |>.getD undef), 9, 136) := by kernel_rfl
theorem f48 : (Tryz.prog.info? 48).map (fun i => (i.zero, i.size, i.bytes)) = some (some ((Tryz.prog.info? 48).bind (·.zero) |>.getD undef), 3, 32) := by kernel_rfl
theorem f9 : (Tryz.prog.info? 9).map (fun i => (i.zero, i.size, i.bytes)) = some (some ((Tryz.prog.info? 9).bind (·.zero) |>.getD undef), 1, 16) := by kernel_rfl
theorem f53 : (Tryz.prog.info? 53).map (fun i => (i.zero, i.size, i.bytes)) = some (some ((Tryz.prog.info? 53).bind (·.zero) |>.getD undef), 3, 64) := by kernel_rfl
instance (z : Value) : Zk eS z := ⟨fun _ _ => trivial⟩
instance (z : Value) : Zk eV z := ⟨fun _ _ => trivial⟩
theorem z9c : ((Tryz.prog.info? 9).bind (·.zero) |>.getD undef).cells.toList = [.string ⟨#[]⟩] := by kernel_rfl
instance : Zk eN ((Tryz.prog.info? 9).bind (·.zero) |>.getD undef) := ⟨fun u hu => by rw [z9c] at hu; exact List.mem_singleton.1 hu⟩
theorem wp_layS {o : Oper} {a : Act} {w : World} {K : Act → World → Prop} {Q : Exit → Act → World → Prop} (x : Operand) (ho : o.op = .buildSlice 49 1 #[(0, x)]) (ycs : List Value) (hx : a.eval x = .agg ycs.toArray) (hyn : ycs.length = 9)
    (h : ∀ w', At 51 w' w.heap.size ycs → Below w.heap.size w w' → K (a.put o.dst (.slice (some ⟨w.heap.size, 0, none⟩) 1 1)) w') : o.wp Tryz.prog a w K Q := by
  obtain ⟨ie, hi, hz0, hz1, hz2⟩ := info_parts f51
  refine wp_buildSlice 49 51 1 #[(0, x)] ho ycs.toArray ie _ Tryz.underlying49 hi hz0 (by rw [hz1]; decide) (by rw [hz1]; decide) ?_ ?_
  · rw [hz1]
    simp only [List.map_toArray, List.map_cons, List.map_nil, hx]
    match ycs, hyn with
    | [a0, a1, a2, a3, a4, a5, a6, a7, a8], _ => (show _ = _); kernel_rfl
  · exact h _ (_root_.Go.heap_alloc_new w _) ((Below.refl _ w).alloc (Nat.le_refl _) _)
theorem wpList_layS {ops : Array Oper} {rest : List Oper} {o : Oper} {a : Act} {w : World} {Q : Exit → Act → World → Prop} (hgd : o.guard = none) (x : Operand) (ho : o.op = .buildSlice 49 1 #[(0, x)]) (ycs : List Value) (hx : a.eval x = .agg ycs.toArray) (hyn : ycs.length = 9)
    (h : ∀ w', At 51 w' w.heap.size ycs → Below w.heap.size w w' → wpList Tryz.prog ops Q rest (a.put o.dst (.slice (some ⟨w.heap.size, 0, none⟩) 1 1)) w') : wpList Tryz.prog ops Q (o :: rest) a w :=
  wpList_plain hgd fun _ hK => wp_layS x ho ycs hx hyn fun w' h1 h2 => hK _ _ (h w' h1 h2)
theorem wp_layV {o : Oper} {a : Act} {w : World} {K : Act → World → Prop} {Q : Exit → Act → World → Prop} (x : Operand) (ho : o.op = .buildSlice 22 1 #[(0, x)]) (ycs : List Value) (hx : a.eval x = .agg ycs.toArray) (hyn : ycs.length = 3)
    (h : ∀ w', At 48 w' w.heap.size ycs → Below w.heap.size w w' → K (a.put o.dst (.slice (some ⟨w.heap.size, 0, none⟩) 1 1)) w') : o.wp Tryz.prog a w K Q := by
  obtain ⟨ie, hi, hz0, hz1, hz2⟩ := info_parts f48
  refine wp_buildSlice 22 48 1 #[(0, x)] ho ycs.toArray ie _ Tryz.underlying22 hi hz0 (by rw [hz1]; decide) (by rw [hz1]; decide) ?_ ?_
  · rw [hz1]
    simp only [List.map_toArray, List.map_cons, List.map_nil, hx]
    match ycs, hyn with
    | [a0, a1, a2], _ => (show _ = _); kernel_rfl
  · exact h _ (_root_.Go.heap_alloc_new w _) ((Below.refl _ w).alloc (Nat.le_refl _) _)
theorem wpList_layV {ops : Array Oper} {rest : List Oper} {o : Oper} {a : Act} {w : World} {Q : Exit → Act → World → Prop} (hgd : o.guard = none) (x : Operand) (ho : o.op = .buildSlice 22 1 #[(0, x)]) (ycs : List Value) (hx : a.eval x = .agg ycs.toArray) (hyn : ycs.length = 3)
    (h : ∀ w', At 48 w' w.heap.size ycs → Below w.heap.size w w' → wpList Tryz.prog ops Q rest (a.put o.dst (.slice (some ⟨w.heap.size, 0, none⟩) 1 1)) w') : wpList Tryz.prog ops Q (o :: rest) a w :=
  wpList_plain hgd fun _ hK => wp_layV x ho ycs hx hyn fun w' h1 h2 => hK _ _ (h w' h1 h2)
theorem wp_layT {o : Oper} {a : Act} {w : World} {K : Act → World → Prop} {Q : Exit → Act → World → Prop} (x : Operand) (ho : o.op = .buildSlice 24 1 #[(0, x)]) (ycs : List Value) (hx : a.eval x = .agg ycs.toArray) (hyn : ycs.length = 3)
    (h : ∀ w', At 53 w' w.heap.size ycs → Below w.heap.size w w' → K (a.put o.dst (.slice (some ⟨w.heap.size, 0, none⟩) 1 1)) w') : o.wp Tryz.prog a w K Q := by
  obtain ⟨ie, hi, hz0, hz1, hz2⟩ := info_parts f53
  refine wp_buildSlice 24 53 1 #[(0, x)] ho ycs.toArray ie _ Tryz.underlying24 hi hz0 (by rw [hz1]; decide) (by rw [hz1]; decide) ?_ ?_
  · rw [hz1]
    simp only [List.map_toArray, List.map_cons, List.map_nil, hx]
    match ycs, hyn with
    | [a0, a1, a2], _ => (show _ = _); kernel_rfl
  · exact h _ (_root_.Go.heap_alloc_new w _) ((Below.refl _ w).alloc (Nat.le_refl _) _)
theorem wpList_layT {ops : Array Oper} {rest : List Oper} {o : Oper} {a : Act} {w : World} {Q : Exit → Act → World → Prop} (hgd : o.guard = none) (x : Operand) (ho : o.op = .buildSlice 24 1 #[(0, x)]) (ycs : List Value) (hx : a.eval x = .agg ycs.toArray) (hyn : ycs.length = 3)
    (h : ∀ w', At 53 w' w.heap.size ycs → Below w.heap.size w w' → wpList Tryz.prog ops Q rest (a.put o.dst (.slice (some ⟨w.heap.size, 0, none⟩) 1 1)) w') : wpList Tryz.prog ops Q (o :: rest) a w :=
  wpList_plain hgd fun _ hK => wp_layT x ho ycs hx hyn fun w' h1 h2 => hK _ _ (h w' h1 h2)
theorem wp_layN {o : Oper} {a : Act} {w : World} {K : Act → World → Prop} {Q : Exit → Act → World → Prop} (x : Operand) (ho : o.op = .buildSlice 23 1 #[(0, x)]) (m : ByteArray) (hx : a.eval x = .string m)
    (h : ∀ w', At 9 w' w.heap.size [.string m] → Below w.heap.size w w' → K (a.put o.dst (.slice (some ⟨w.heap.size, 0, none⟩) 1 1)) w') : o.wp Tryz.prog a w K Q := by
  obtain ⟨ie, hi, hz0, hz1, hz2⟩ := info_parts f9
  refine wp_buildSlice 23 9 1 #[(0, x)] ho [.string m].toArray ie _ Tryz.underlying23 hi hz0 (by rw [hz1]; decide) (by rw [hz1]; decide) ?_ ?_
  · rw [hz1]
    simp only [List.map_toArray, List.map_cons, List.map_nil, hx]
    kernel_rfl
  · exact h _ (_root_.Go.heap_alloc_new w _) ((Below.refl _ w).alloc (Nat.le_refl _) _)
/-- What the cells of a row that grew are. -/
theorem Gr.cell {α δ : Type} {e : Elt α δ} {A : Nat} {w : World} {a : Option Addr} {n c : Nat} {ys : List α} (h : Gr e A w (.slice a n c) ys) : ys.length ≤ c ∧ (ys = [] ∨ ∃ g, a = some ⟨g, 0, none⟩ ∧ A ≤ g ∧ g < w.heap.size ∧ w.rangeAt g 0 (ys.flatMap e.cl) ∧ ∃ cs, At e.E w g cs ∧ cs.length = c * e.n ∧ c ≤ 9223372036854775807) := by
  obtain ⟨h1, ⟨h2, h3⟩ | ⟨g, cap, cur, hv, hg, hc, hn, h3⟩⟩ := id h.own
  · have e0 : ys = [] := List.length_eq_zero_iff.mp h3
    subst e0
    exact ⟨Nat.zero_le _, .inl rfl⟩
  · have hlt : g < w.heap.size := (h.own.lt g (by rw [hv]; rfl)).2
    have hv' := hv
    injection hv with e1 e2 e3
    subst e1 e3
    refine ⟨hn, .inr ⟨g, rfl, hg, hlt, fun j u hj => ?_, cur.toList, (by unfold At; rw [Array.toArray_toList]; exact hc), (by rw [Array.length_toList]; exact h3.2.1), by have := h3.1; unfold maxLen at this; omega⟩⟩
    have z := h.own.cells (g := g) rfl j u hj
    rw [Addr.add_mid] at z
    exact z
/-- A row of statements that grew. -/
theorem Gr.stmts {A : Nat} {w : World} {a : Option Addr} {n c : Nat} {ys : List ST} (h : Gr eS A w (.slice a n c) ys) (hl : ys.length ≤ 1048576) : Tl A w a c ys := by
  obtain ⟨h1, h2⟩ := h.cell
  have hL : ST.LiesL (fun k => A ≤ k) ys := ST.LiesL.of fun y hy => (h.off y hy : y.Lies _).mono fun k hk => hk.1
  have hSo : ST.LiesL (Soft w) ys := ST.LiesL.of fun y hy => (h.ins y hy).2
  rcases h2 with rfl | ⟨g, rfl, hg, hlt, hr, cs, hs, -⟩
  · exact ⟨⟨⟨by simp, Nat.zero_le _, .inl rfl⟩, .inl rfl, hSo⟩, .inl rfl, hL⟩
  · exact ⟨⟨⟨hl, h1, .inr ⟨g, 0, rfl, hlt, row_of_flatS ys 0 hr fun y hy => (h.ins y hy).1⟩⟩, .inr ⟨g, 0, rfl, 51, cs, hs, by decide⟩, hSo⟩, .inr ⟨g, 0, rfl, hg⟩, hL⟩
end Go.Proofs.YtjgggmjjikopeaaGreatDoor

/- The reader of programs: blocks, choices. -/
namespace Go.Proofs.YtjgggmjjikopeaaGreatDoor
open Go.RowKit
set_option linter.unusedVariables false

/-- A choice behind its first word. -/
def choiceR (f d : Nat) (l : List Tk) : Rs St := (exprR l).bind fun e r => (blockR f d r).bind fun b r => (elseR f d r).bind fun c r => .ok (.mk 5 [] e b c) r
def StmtsW (n : Nat) : Prop := ∀ (l : List Tk) (f d : Nat), l.length ≤ n → 4 * l.length + 4 ≤ f → d ≤ 32 → l.length ≤ 1048576 → ∀ (B g : Nat) (w : World), Rd B w g l → B ≤ w.heap.size →
  Calls Tryz.prog 96 #[.pointer (some ⟨g, 0, none⟩), .int .i64 (d : Int)] w (PostL B g w (stmtsR f d l))
def BlockW (n : Nat) : Prop := ∀ (l : List Tk) (f d : Nat), l.length ≤ n → 4 * l.length + 1 ≤ f → d ≤ 32 → l.length ≤ 1048576 → ∀ (B g : Nat) (w : World), Rd B w g l → B ≤ w.heap.size →
  Calls Tryz.prog 163 #[.pointer (some ⟨g, 0, none⟩), .int .i64 (d : Int)] w (PostL B g w (blockR f d l))
def StmtW (n : Nat) : Prop := ∀ (l : List Tk) (f d : Nat), l.length ≤ n → 4 * l.length + 3 ≤ f → d ≤ 32 → l.length ≤ 1048576 → ∀ (B g : Nat) (w : World), Rd B w g l → B ≤ w.heap.size →
  Calls Tryz.prog 129 #[.pointer (some ⟨g, 0, none⟩), .int .i64 (d : Int)] w (PostS B g w (stmtR f d l))
def ChoiceW (n : Nat) : Prop := ∀ (l : List Tk) (f d : Nat), l.length ≤ n → 4 * l.length + 3 ≤ f → d ≤ 32 → l.length ≤ 1048576 → ∀ (B g : Nat) (w : World), Rd B w g l → B ≤ w.heap.size →
  Calls Tryz.prog 162 #[.pointer (some ⟨g, 0, none⟩), .int .i64 (d : Int)] w (PostS B g w (choiceR f d l))
theorem Rd.pos {B : Nat} {w : World} {g : Nat} {l : List Tk} (h : Rd B w g l) : 0 < l.length := by
  obtain ⟨_, _, _, h, _⟩ := h
  exact List.length_pos_iff.2 h.ends.ne
theorem Tl.but {A k : Nat} {w w' : World} {a : Option Addr} {c : Nat} {ys : List ST} (h : Tl A w a c ys) (hb : But k w w') (hk : k < A ∨ w.heap.size ≤ k) : Tl A w' a c ys := by
  obtain ⟨⟨⟨h1, h2, h3⟩, h6, h7⟩, h4, h5⟩ := h
  have hSf : ∀ j, (A ≤ j ∧ Soft w j) → j < w.heap.size → Soft w' j := fun j hj hl => hj.2.keep (hb.block j hl (by omega))
  have hq : (ys = [] ∨ ∃ g o, a = some ⟨g, o, none⟩ ∧ Soft w' g) ∧ ST.LiesL (Soft w') ys := by
    rcases h3 with h3 | ⟨g, o, ha, hg, hr⟩
    · subst h3
      exact ⟨.inl rfl, trivial⟩
    · refine ⟨?_, (ST.Row.lies hr (h5.and h7)).mono fun j hj => hSf j hj.1 hj.2⟩
      rcases at_and h4 h6 with q | ⟨g', o', ha', hg'⟩
      · exact .inl q
      · rw [ha] at ha'
        cases ha'
        exact .inr ⟨g, o, ha, hSf g hg' hg⟩
  refine ⟨⟨⟨h1, h2, ?_⟩, hq⟩, h4, h5⟩
  rcases h3 with h3 | ⟨g, o, ha, hg, hr⟩
  · exact .inl h3
  · rcases h4 with h4 | ⟨g', o', ha', hg'⟩
    · exact .inl h4
    · rw [ha] at ha'
      cases ha'
      exact .inr ⟨g, o, ha, Nat.lt_of_lt_of_le hg hb.size, ST.Row.up hb.size (ST.Row.stay (S := fun j => A ≤ j) (fun j hj hl => hb.block j hl (by omega)) hg' hg hr h5)⟩
theorem Tl.below {A : Nat} {w w' : World} {a : Option Addr} {c : Nat} {ys : List ST} (h : Tl A w a c ys) (hb : Below w.heap.size w w') : Tl A w' a c ys := h.but (But.of_below (g := w.heap.size) hb) (.inr (Nat.le_refl _))
theorem Tl.low {A A' : Nat} {w : World} {a : Option Addr} {c : Nat} {ys : List ST} (h : Tl A w a c ys) (hA : A' ≤ A) : Tl A' w a c ys := by
  refine ⟨h.1, ?_, h.2.2.mono fun k hk => Nat.le_trans hA hk⟩
  rcases h.2.1 with q | ⟨g, o, ha, hg⟩
  · exact .inl q
  · exact .inr ⟨g, o, ha, by omega⟩
theorem Tl.nil (A : Nat) (w : World) : Tl A w none 0 [] := ⟨⟨⟨by simp, Nat.le_refl _, .inl rfl⟩, .inl rfl, by unfold ST.LiesL; trivial⟩, .inl rfl, by unfold ST.LiesL; trivial⟩
theorem ts_mk {A : Nat} {w : World} (k : Int) (hk : -9223372036854775808 ≤ k ∧ k ≤ 9223372036854775807) (nm : ByteArray) {e : ET} (he : Tw A w e) {a1 a2 : Option Addr} {c1 c2 : Nat} {b1 b2 : List ST} (h1 : Tl A w a1 c1 b1) (h2 : Tl A w a2 c2 b2) : Ts A w (.mk k nm e a1 c1 b1 a2 c2 b2) := by
  refine ⟨⟨?_, ?_⟩, ?_⟩
  · unfold ST.In
    exact ⟨hk, he.1.1, h1.1.1, h2.1.1⟩
  · unfold ST.Lies
    exact ⟨he.1.2, ⟨h1.1.2.1, h1.1.2.2⟩, h2.1.2.1, h2.1.2.2⟩
  · unfold ST.Lies
    exact ⟨he.2, ⟨h1.2.1, h1.2.2⟩, h2.2.1, h2.2.2⟩

set_option maxRecDepth 100000 in
set_option maxHeartbeats 6400000 in
theorem block_of (n : Nat) (hS : StmtsW n) : BlockW (n + 1) := by
  intro l f d hln hf hd hlm B g w h hBw
  have hpos := h.pos
  obtain ⟨f, rfl⟩ : ∃ q, f = q + 1 := ⟨f - 1, by omega⟩
  have lg := h.lt
  have hml := mustR_left (x := [123]) (l := l) (by decide)
  have H92 := next_any g l w h
  have HM : Hid (∀ u, Below w.heap.size w u → Calls Tryz.prog 58 #[.pointer (some ⟨g, 0, none⟩), .string ⟨#[123]⟩] u (PostU B g u (mustR [123] l))) := fun u hu => must_any g l ⟨#[123]⟩ (by decide) u (h.below hu)
  obtain ⟨D, hD⟩ : ∃ D, Hid (D = blockR (f + 1) d l) := ⟨_, (rfl : blockR (f + 1) d l = _)⟩
  rw [← hD.out]
  rw [blockR] at hD
  clear h
  generalize mustR [123] l = N at HM hD hml
  generalize hdT l = t0 at H92 hD
  obtain ⟨K0, T0, p0, b0⟩ := t0
  have H92 : Calls Tryz.prog 92 #[.pointer (some ⟨g, 0, none⟩)] w fun r w' => r = .returned (.agg #[.int .i64 (K0 : Int), .string ⟨T0.toArray⟩, .int .i64 (p0 : Int), .int .u8 (valT K0 : Nat), .int .u64 (b0 : Nat)]) ∧ Below w.heap.size w w' := H92
  dsimp only at hD
  generalize valT K0 = tv0 at H92
  have hf0 := fun u => field_place K0 ⟨T0.toArray⟩ p0 tv0 b0 u
  have HS : Hid (StmtsW n) := hS
  clear hS
  go_enter Tryz.func163, Tryz.ntmps163
  go_wp2_with (go_at_call 92; refine H92.mono ?_; rintro r w1 ⟨rfl, hb1⟩; refine Hid.out ?_)
  refine hidU ?_
  have C58 := HM.out w1 hb1
  clear H92 HM
  cases N with
  | bad e p =>
    have hD' : D = .bad e p := hD.out
    subst hD'
    go_wp2_with (go_at_call 58; refine C58.mono ?_; rintro r w2 ⟨hr, hb2⟩; unfold PanW at hr; subst hr)
    exact ⟨rfl, rfl, (But.of_below hb1).trans hb2⟩
  | ok u r1 =>
  have hr1 : r1.length < l.length := hml
  have hD1 : Hid (D = if 32 ≤ d then .bad 160 p0 else stmtsR f (d + 1) r1) := hD
  clear hD hml
  go_wp2_with (go_at_call 58; refine C58.mono ?_; rintro r w2 ⟨rfl, hR2, hb2⟩; refine Hid.out ?_)
  refine hidU ?_
  have hbt : But g w w2 := (But.of_below hb1).trans hb2
  have l12 := hbt.size
  clear C58 hb1 hb2 hf0
  by_cases h32 : 32 ≤ d
  · have hD' := hD1.out
    rw [if_pos h32] at hD'
    subst hD'
    have e32 : decide ((d : Int) ≥ 32) = true := decide_eq_true (by omega)
    clear hD1 HS hR2
    go_wp2_with (go_at_call 54; refine (refuse_any 160 p0 _).mono ?_; rintro r w3 ⟨hr, rfl⟩; unfold PanW at hr; subst hr)
    all_goals first
      | (exfalso; omega)
      | exact ⟨rfl, rfl, hbt⟩
  · have hD' := hD1.out
    rw [if_neg h32] at hD'
    have C96 := HS.out r1 f (d + 1) (by omega) (by omega) (by omega) (by omega) B g w2 hR2 (by omega)
    have e1 : IntKind.i64.wrap ((d : Int) + 1) = ((d + 1 : Nat) : Int) := by rw [IntKind.wrap_i64]; omega
    generalize stmtsR f (d + 1) r1 = N at C96 hD'
    obtain ⟨d', hd'⟩ : ∃ q, q = d + 1 := ⟨_, rfl⟩
    rw [← hd'] at C96 e1
    subst hD'
    clear hD1 HS hR2 hd'
    cases D with
    | bad e p =>
      go_wp2_with (go_at_call 96; refine C96.mono ?_; rintro r w3 ⟨hr, hb3⟩; unfold PanW at hr; subst hr)
      all_goals first
        | (exfalso; omega)
        | exact ⟨rfl, rfl, hbt.trans hb3⟩
    | ok ss r2 =>
      go_wp2_with (go_at_call 96; refine C96.mono ?_; rintro r w3 ⟨a, c, ys, rfl, hys, hT, hR3, hb3⟩)
      all_goals first
        | (exfalso; omega)
        | (go_ret; exact ⟨a, c, ys, rfl, hys, hT.low l12, hR3, hbt.trans hb3⟩)

set_option maxRecDepth 100000 in
set_option maxHeartbeats 6400000 in
theorem choice_of (n : Nat) (hS : BlockW n) : ChoiceW n := by
  intro l f d hln hf hd hlm B g w h hBw
  have hpos := h.pos
  obtain ⟨f, rfl⟩ : ∃ q, f = q + 1 := ⟨f - 1, by omega⟩
  have lg := h.lt
  have HX : Hid (∀ u, Below w.heap.size w u → Calls Tryz.prog 38 #[.pointer (some ⟨g, 0, none⟩), .int .i64 0] u (PostX B g u (exprR l))) := fun u hu => expr38_any g l u (h.below hu) (Nat.le_trans hBw hu.size)
  have hxl := exprR_left l
  obtain ⟨D, hD⟩ : ∃ D, Hid (D = choiceR (f + 1) d l) := ⟨_, (rfl : choiceR (f + 1) d l = _)⟩
  rw [← hD.out]
  unfold choiceR at hD
  have HS : Hid (BlockW n) := hS
  clear h hS
  generalize exprR l = N at HX hD hxl
  go_enter Tryz.func162, Tryz.ntmps162
  go_wp2_with (first
    | ((with_reducible show wpList _ _ _ _ _ _); refine wpList_alloc_at (o := { dst := some 4, .. }) rfl 51 rfl (ST.cells (.mk 0 ⟨#[]⟩ (ET.mk 0 0 0 ⟨#[]⟩ none 0 []) none 0 [] none 0 [])) 9 z51 ?_; intro w1 hA4 hb1 hs1; clear hs1)
    | ((with_reducible show wpList _ _ _ _ _ _); refine wpList_build_at rfl 51 _ rfl [.int .i64 5, .string ⟨#[]⟩, .int .u8 0, .int .u8 0, .int .u64 0, .string ⟨#[]⟩, .slice none 0 0, .slice none 0 0, .slice none 0 0] (by kernel_rfl) ?_)
    | ((with_reducible show wpList _ _ _ _ _ _); refine wpList_alloc_at (o := { dst := some 5, .. }) rfl 51 rfl (ST.cells (.mk 0 ⟨#[]⟩ (ET.mk 0 0 0 ⟨#[]⟩ none 0 []) none 0 [] none 0 [])) 9 z51 ?_; intro w2 hA5 hb2 hs2; clear hs2)
    | ((with_reducible show wpList _ _ _ _ _ _); refine wpList_store_at (P := Tryz.prog) rfl 51 (.tmp 5) (.tmp 6) rfl w1.heap.size [.int .i64 5, .string ⟨#[]⟩, .int .u8 0, .int .u8 0, .int .u64 0, .string ⟨#[]⟩, .slice none 0 0, .slice none 0 0, .slice none 0 0] rfl rfl 51 _ hA5 i38 rfl (by intro v hv; simp at hv; rcases hv with rfl | rfl | rfl | rfl | rfl | rfl | rfl | rfl | rfl <;> rfl) ?_; intro w3 hA5 hb3 hs3; clear hs3; refine Hid.out ?_))
  refine hidU ?_
  have l01 := hA4.lt
  have l12 := hb2.size
  have h13 : Below w1.heap.size w1 w3 := hb3.below hb2 (Nat.le_refl _) hb2.size
  have hw3 : Below w.heap.size w w3 := hb1.trans (h13.mono hb1.size)
  have hA4 := hA4.below h13
  have l13 := hA5.lt
  have CX := HX.out w3 hw3
  obtain ⟨g5, hg5⟩ : ∃ q, q = w1.heap.size := ⟨_, rfl⟩
  rw [← hg5] at hA5 l13 ⊢
  have lg5 : w.heap.size < g5 := by omega
  have hbt : But g w w3 := But.of_below hw3
  have l03 := hw3.size
  clear HX hb1 hb2 hb3 h13 hw3 l01 l12 hg5
  cases N with
  | bad e p =>
    have hD' : D = .bad e p := hD.out
    subst hD'
    go_wp2_with (go_at_call 38; refine CX.mono ?_; rintro r w4 ⟨hr, hb4⟩; unfold PanW at hr; subst hr)
    exact ⟨rfl, rfl, hbt.trans hb4⟩
  | ok e r1 =>
  have hr1 : r1.length < l.length := hxl
  have hD1 : Hid (D = (blockR (f + 1) d r1).bind fun b r => (elseR (f + 1) d r).bind fun c r => .ok (.mk 5 [] e b c) r) := hD
  clear hD hxl
  go_wp2_with (go_at_call 38; refine CX.mono ?_; rintro r w4 ⟨y, rfl, hye, hyt, hR, hb4⟩; refine Hid.out ?_)
  refine hidU ?_
  obtain ⟨y0, y1, y2, y3, y4, hyc⟩ : ∃ y0 y1 y2 y3 y4, y.cells = [y0, y1, y2, y3, y4] := by cases y; exact ⟨_, _, _, _, _, rfl⟩
  have hyo := ET.one y
  rw [hyc] at hyo ⊢
  have hA4 := hb4.at hA4 (by omega)
  have hA5 := hb4.at hA5 (by omega)
  have hbt := hbt.trans hb4
  have l34 := hb4.size
  clear CX hb4
  go_wp2_with (first
    | ((with_reducible show wpList _ _ _ _ _ _); refine wpList_store_mid (P := Tryz.prog) rfl 43 (.tmp 9) (.tmp 8) rfl g5 2 [y0, y1, y2, y3, y4].toArray rfl rfl (hA5.there 2 5 (by decide)) i29 (all_oneCell_toArray hyo) ?_; refine Hid.out ?_))
  refine hidU ?_
  have hA5' : At 51 (w4.setCells g5 2 [y0, y1, y2, y3, y4]) g5 [.int .i64 5, .string ⟨#[]⟩, y0, y1, y2, y3, y4, .slice none 0 0, .slice none 0 0] := At.setCells [y0, y1, y2, y3, y4] 2 w4 _ hA5 (show 2 + 5 ≤ 9 by decide)
  have hb5 : But g5 w4 (w4.setCells g5 2 [y0, y1, y2, y3, y4]) := But.setCells _ _ _ (But.refl _ _)
  obtain ⟨w5, hw5⟩ : ∃ q, q = w4.setCells g5 2 [y0, y1, y2, y3, y4] := ⟨_, rfl⟩
  have hw5' : (w4.setCells g5 2 [y0, y1, y2, y3, y4].toArray.toList) = w5 := hw5.symm
  rw [hw5']
  rw [← hw5] at hA5' hb5
  have hA5 := hA5'
  have hA4 := hb5.at hA4 (by omega)
  have hR := hR.but hb5 (by omega)
  have hbt := hbt.fresh hb5 (by omega)
  have hyt := hyt.but hb5 (.inl l13)
  have l45 := hb5.size
  clear hw5 hw5' hb5 hA5'
  have CB := HS.out r1 (f + 1) d (by omega) (by omega) hd (by omega) B g w5 hR (by omega)
  have hbl := (stmt_left (f + 1) d r1).2.2.1
  clear hR
  generalize blockR (f + 1) d r1 = N at CB hD1 hbl
  cases N with
  | bad e p =>
    have hD' : D = .bad e p := hD1.out
    subst hD'
    go_wp2_with (go_at_call 163; refine CB.mono ?_; rintro r w6 ⟨hr, hb6⟩; unfold PanW at hr; subst hr)
    exact ⟨rfl, rfl, hbt.trans hb6⟩
  | ok ss r2 =>
  have hr2 : r2.length < r1.length := hbl
  have hD2 : Hid (D = (elseR (f + 1) d r2).bind fun c r => .ok (.mk 5 [] e ss c) r) := hD1
  rw [elseR] at hD2
  clear hD1 hbl
  go_wp2_with (go_at_call 163; refine CB.mono ?_; rintro r w6 ⟨a1, c1, ys, rfl, hys, hT1, hR, hb6⟩; refine Hid.out ?_)
  refine hidU ?_
  obtain ⟨n1, hn1⟩ : ∃ q, Hid (q = ys.length) := ⟨_, (rfl : ys.length = _)⟩
  rw [← hn1.out]
  have hA4 := hb6.at hA4 (by omega)
  have hA5 := hb6.at hA5 (by omega)
  have hbt := hbt.trans hb6
  have hyt := hyt.but hb6 (.inl (by omega))
  have l56 := hb6.size
  clear CB hb6
  go_wp2_with (first
    | ((with_reducible show wpList _ _ _ _ _ _); refine wpList_store_one (P := Tryz.prog) rfl 49 (.tmp 13) (.tmp 12) rfl g5 7 (.slice a1 n1 c1) rfl rfl 51 _ hA5 (show 7 + 1 ≤ 9 by decide) (by kernel_rfl) rfl rfl ?_; intro w7 hA5 hb hs; clear hs; refine Hid.out ?_))
  refine hidU ?_
  have hA5 : At 51 w7 g5 [.int .i64 5, .string ⟨#[]⟩, y0, y1, y2, y3, y4, .slice a1 n1 c1, .slice none 0 0] := hA5
  have hA4 := hb.at hA4 (by omega)
  have hR := hR.but hb (by omega)
  have hbt := hbt.fresh hb (by omega)
  have hyt := hyt.but hb (.inl (by omega))
  have hT1 := hT1.but hb (.inl (by omega))
  have l67 := hb.size
  clear hb
  by_cases hc : (hdT r2).text = [101, 108, 115, 101]
  focus
    rw [if_pos hc] at hD2
    have C55 := takes_yes g r2 ⟨#[101, 108, 115, 101]⟩ (by decide) hc w7 hR
    have htl := tail_lt (l := r2) (by rw [hc]; decide)
    clear hR hc
  rotate_left
  focus
    rw [if_neg hc] at hD2
    have C55 := takes_no g r2 ⟨#[101, 108, 115, 101]⟩ (by decide) hc w7 hR
    have hD' : D = .ok (.mk 5 [] e ss []) r2 := hD2.out
    subst hD'
    clear hR hc hD2 HS
  rotate_left
  all_goals
    go_wp2_with (go_at_call 55; refine C55.mono ?_; rintro r w8 ⟨rfl, hR, hb8⟩; refine Hid.out ?_)
    refine hidU ?_
    have hA4 := hb8.at hA4 (by omega)
    have hA5 := hb8.at hA5 (by omega)
    have hbt := hbt.trans hb8
    have hyt := hyt.but hb8 (.inl (by omega))
    have hT1 := hT1.but hb8 (.inl (by omega))
    have l78 := hb8.size
  · clear C55 hb8
    have CB := HS.out r2.tail f d (by omega) (by omega) hd (by omega) B g w8 hR (by omega)
    clear hR HS
    generalize blockR f d r2.tail = N at CB hD2
    cases N with
    | bad e p =>
      have hD' : D = .bad e p := hD2.out
      subst hD'
      go_wp2_with (go_at_call 163; refine CB.mono ?_; rintro r w9 ⟨hr, hb9⟩; unfold PanW at hr; subst hr)
      exact ⟨rfl, rfl, hbt.trans hb9⟩
    | ok cc r3 =>
    have hD' : D = .ok (.mk 5 [] e ss cc) r3 := hD2.out
    subst hD'
    go_wp2_with (go_at_call 163; refine CB.mono ?_; rintro r w9 ⟨a2, c2, zs, rfl, hzs, hT2, hR, hb9⟩; refine Hid.out ?_)
    refine hidU ?_
    obtain ⟨n2, hn2⟩ : ∃ q, Hid (q = zs.length) := ⟨_, (rfl : zs.length = _)⟩
    rw [← hn2.out]
    have hA4 := hb9.at hA4 (by omega)
    have hA5 := hb9.at hA5 (by omega)
    have hbt := hbt.trans hb9
    have hyt := hyt.but hb9 (.inl (by omega))
    have hT1 := hT1.but hb9 (.inl (by omega))
    have l89 := hb9.size
    clear CB hb9
    go_wp2_with (first
      | ((with_reducible show wpList _ _ _ _ _ _); refine wpList_store_one (P := Tryz.prog) rfl 49 (.tmp 19) (.tmp 18) rfl g5 8 (.slice a2 n2 c2) rfl rfl 51 _ hA5 (show 8 + 1 ≤ 9 by decide) (by kernel_rfl) rfl rfl ?_; intro wA hA5 hb hs; clear hs; refine Hid.out ?_))
    refine hidU ?_
    have hA5 : At 51 wA g5 [.int .i64 5, .string ⟨#[]⟩, y0, y1, y2, y3, y4, .slice a1 n1 c1, .slice a2 n2 c2] := hA5
    have hA4 := hb.at hA4 (by omega)
    have hR := hR.but hb (by omega)
    have hbt := hbt.fresh hb (by omega)
    have hyt := hyt.but hb (.inl (by omega))
    have hT1 := hT1.but hb (.inl (by omega))
    have hT2 := hT2.but hb (.inl (by omega))
    have l9A := hb.size
    have hcs : (ST.mk 5 ⟨#[]⟩ y a1 c1 ys a2 c2 zs).cells = [.int .i64 5, .string ⟨#[]⟩, y0, y1, y2, y3, y4, .slice a1 n1 c1, .slice a2 n2 c2] := by
      show (.int .i64 5 :: .string ⟨#[]⟩ :: (y.cells ++ [.slice a1 ys.length c1, .slice a2 zs.length c2]) : List Value) = _
      rw [hyc, hn1.out, hn2.out]; rfl
    clear hb
    go_wp2_with (first
      | ((with_reducible show wpList _ _ _ _ _ _); refine wpList_load_at (P := Tryz.prog) rfl 51 (.tmp 5) rfl g5 rfl 51 [.int .i64 5, .string ⟨#[]⟩, y0, y1, y2, y3, y4, .slice a1 n1 c1, .slice a2 n2 c2] hA5 _ Tryz.underlying51 rfl i38 ?_)
      | ((with_reducible show wpList _ _ _ _ _ _); refine wpList_store_at (P := Tryz.prog) rfl 51 (.tmp 4) (.tmp 20) rfl w.heap.size [.int .i64 5, .string ⟨#[]⟩, y0, y1, y2, y3, y4, .slice a1 n1 c1, .slice a2 n2 c2] rfl rfl 51 _ hA4 i38 rfl (by rw [← hcs]; exact ST.one _) ?_; intro wE hAE hbE hsE; clear hsE))
    refine bodyPost_ret (results_at rfl _ _ w.heap.size 51 [.int .i64 5, .string ⟨#[]⟩, y0, y1, y2, y3, y4, .slice a1 n1 c1, .slice a2 n2 c2] _ rfl hAE Tryz.underlying51 rfl i38) rfl ?_
    refine ⟨(ST.mk 5 ⟨#[]⟩ y a1 c1 ys a2 c2 zs), by rw [hcs], ?_, ts_mk _ (by decide) _ ((hyt.but hbE (.inl (by omega))).low (by omega)) ((hT1.but hbE (.inl (by omega))).low (by omega)) ((hT2.but hbE (.inl (by omega))).low (by omega)), hR.but hbE hBw, hbt.fresh hbE (Nat.le_refl _)⟩
    unfold ST.st
    rw [hye, ST.sts_eq, ST.sts_eq, hys, hzs]
  · have hcs : (ST.mk 5 ⟨#[]⟩ y a1 c1 ys none 0 []).cells = [.int .i64 5, .string ⟨#[]⟩, y0, y1, y2, y3, y4, .slice a1 n1 c1, .slice none 0 0] := by
      show (.int .i64 5 :: .string ⟨#[]⟩ :: (y.cells ++ [.slice a1 ys.length c1, .slice none 0 0]) : List Value) = _
      rw [hyc, hn1.out]; rfl
    clear C55 hb8
    go_wp2_with (first
      | ((with_reducible show wpList _ _ _ _ _ _); refine wpList_load_at (P := Tryz.prog) rfl 51 (.tmp 5) rfl g5 rfl 51 [.int .i64 5, .string ⟨#[]⟩, y0, y1, y2, y3, y4, .slice a1 n1 c1, .slice none 0 0] hA5 _ Tryz.underlying51 rfl i38 ?_)
      | ((with_reducible show wpList _ _ _ _ _ _); refine wpList_store_at (P := Tryz.prog) rfl 51 (.tmp 4) (.tmp 20) rfl w.heap.size [.int .i64 5, .string ⟨#[]⟩, y0, y1, y2, y3, y4, .slice a1 n1 c1, .slice none 0 0] rfl rfl 51 _ hA4 i38 rfl (by rw [← hcs]; exact ST.one _) ?_; intro wE hAE hbE hsE; clear hsE))
    refine bodyPost_ret (results_at rfl _ _ w.heap.size 51 [.int .i64 5, .string ⟨#[]⟩, y0, y1, y2, y3, y4, .slice a1 n1 c1, .slice none 0 0] _ rfl hAE Tryz.underlying51 rfl i38) rfl ?_
    refine ⟨(ST.mk 5 ⟨#[]⟩ y a1 c1 ys none 0 []), by rw [hcs], ?_, ts_mk _ (by decide) _ ((hyt.but hbE (.inl (by omega))).low (by omega)) ((hT1.but hbE (.inl (by omega))).low (by omega)) (Tl.nil _ _), hR.but hbE hBw, hbt.fresh hbE (Nat.le_refl _)⟩
    unfold ST.st
    rw [hye, ST.sts_eq, ST.sts_eq, hys]
    rfl
end Go.Proofs.YtjgggmjjikopeaaGreatDoor
