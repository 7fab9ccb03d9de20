/- Joined texts of the proof. -/
import Derived.Test.YtcmahiphfpgadaaGreatDoorJ1
import Derived.Test.YtcmahiphfpgadaaGreatDoorJ9

/- Prepared for layer 5, no program is named: the text of a program tells it apart from any other. -/
namespace Go.Proofs.YtcmahiphfpgadaaGreatDoor
set_option linter.unusedVariables false

/-- A statement, as data. -/
inductive St where
  | mk (kind : Int) (nm : List UInt8) (e : Ex) (body els : List St)

/-- No expression. -/
def noE : Ex := .mk 0 0 0 [] []

/-- So many blocks deep. -/
def mg (d : Nat) : List UInt8 := List.replicate (2 * d + 2) 32

section
variable (prX : Ex → Option (List UInt8)) (isName : List UInt8 → Bool) (isNo : Ex → Bool)

mutual
/-- A statement's lines. -/
def prS (d : Nat) : St → Option (List UInt8)
  | .mk k nm e body els =>
    if k = 1 then
      (if isName nm = true ∧ body.isEmpty = true ∧ els.isEmpty = true then
        (match prX e with | some x => some (mg d ++ (nm ++ 32 :: (61 :: 32 :: (x ++ 59 :: [10])))) | none => none) else none)
    else if k = 2 then (if isName nm = true ∧ isNo e = true ∧ body.isEmpty = true ∧ els.isEmpty = true then some (mg d ++ ([108, 111, 99, 107] ++ 32 :: (nm ++ 59 :: [10]))) else none)
    else if k = 3 then (if isName nm = true ∧ isNo e = true ∧ body.isEmpty = true ∧ els.isEmpty = true then some (mg d ++ ([117, 110, 108, 111, 99, 107] ++ 32 :: (nm ++ 59 :: [10]))) else none)
    else if k = 4 then (if nm = [] ∧ body.isEmpty = true ∧ els.isEmpty = true then
        (match prX e with | some x => some (mg d ++ ([97, 115, 115, 101, 114, 116] ++ 32 :: (x ++ 59 :: [10]))) | none => none) else none)
    else if k = 5 then (if nm = [] then
        (match prX e, prL (d + 1) body, prL (d + 1) els with
         | some x, some y, some z => some (mg d ++ ([105, 102] ++ 32 :: (x ++ 32 :: (123 :: 10 :: (y ++ (mg d ++ 125 :: (if els.isEmpty = true then [10] else 32 :: ([101, 108, 115, 101, 32, 123] ++ 10 :: (z ++ (mg d ++ 125 :: [10])))))))))) 
         | _, _, _ => none) else none)
    else if k = 6 then (if nm = [] ∧ els.isEmpty = true then
        (match prX e, prL (d + 1) body with
         | some x, some y => some (mg d ++ ([119, 104, 105, 108, 101] ++ 32 :: (x ++ 32 :: (123 :: 10 :: (y ++ (mg d ++ 125 :: [10]))))))
         | _, _ => none) else none)
    else if k = 7 then (if nm = [] ∧ isNo e = true ∧ body.isEmpty = true ∧ els.isEmpty = true then some (mg d ++ ([115, 107, 105, 112] ++ 59 :: [10])) else none)
    else none
/-- Statements' lines. -/
def prL (d : Nat) : List St → Option (List UInt8)
  | [] => some []
  | s :: r => if 32 < d then none else
    (match prS d s, prL d r with
     | some x, some y => some (x ++ y)
     | _, _ => none)
end

/-- How a statement that has lines looks. -/
inductive ShapeS (d : Nat) : St → List UInt8 → Prop
  | assign (nm : List UInt8) (e : Ex) (x : List UInt8) (hn : isName nm = true) (hx : prX e = some x) : ShapeS d (.mk 1 nm e [] []) (mg d ++ (nm ++ 32 :: (61 :: 32 :: (x ++ 59 :: [10]))))
  | lk (k : Int) (w nm : List UInt8) (e : Ex) (hk : (k = 2 ∧ w = [108, 111, 99, 107]) ∨ (k = 3 ∧ w = [117, 110, 108, 111, 99, 107])) (hn : isName nm = true) (he : isNo e = true) : ShapeS d (.mk k nm e [] []) (mg d ++ (w ++ 32 :: (nm ++ 59 :: [10])))
  | asrt (e : Ex) (x : List UInt8) (hx : prX e = some x) : ShapeS d (.mk 4 [] e [] []) (mg d ++ ([97, 115, 115, 101, 114, 116] ++ 32 :: (x ++ 59 :: [10])))
  | iff (e : Ex) (body els : List St) (x y z : List UInt8) (hx : prX e = some x) (hy : prL prX isName isNo (d + 1) body = some y) (hz : prL prX isName isNo (d + 1) els = some z) :
      ShapeS d (.mk 5 [] e body els) (mg d ++ ([105, 102] ++ 32 :: (x ++ 32 :: (123 :: 10 :: (y ++ (mg d ++ 125 :: (if els.isEmpty = true then [10] else 32 :: ([101, 108, 115, 101, 32, 123] ++ 10 :: (z ++ (mg d ++ 125 :: [10]))))))))))
  | whl (e : Ex) (body : List St) (x y : List UInt8) (hx : prX e = some x) (hy : prL prX isName isNo (d + 1) body = some y) : ShapeS d (.mk 6 [] e body []) (mg d ++ ([119, 104, 105, 108, 101] ++ 32 :: (x ++ 32 :: (123 :: 10 :: (y ++ (mg d ++ 125 :: [10]))))))
  | skp (e : Ex) (he : isNo e = true) : ShapeS d (.mk 7 [] e [] []) (mg d ++ ([115, 107, 105, 112] ++ 59 :: [10]))

theorem shapeS_of (d : Nat) (s : St) (x : List UInt8) (h : prS prX isName isNo d s = some x) : ShapeS prX isName isNo d s x := by
  match s, h with
  | .mk k nm e body els, h =>
    simp only [prS] at h
    split at h
    · next hk =>
      subst hk
      split at h
      · next hc =>
        obtain ⟨h1, h2, h3⟩ := hc
        rw [List.isEmpty_iff] at h2 h3
        subst h2 h3
        split at h
        · next y hy => injection h with h; subst h; exact .assign nm e y h1 hy
        · cases h
      · cases h
    · split at h
      · next hk =>
        subst hk
        split at h
        · next hc =>
          obtain ⟨h1, h2, h3, h4⟩ := hc
          rw [List.isEmpty_iff] at h3 h4
          subst h3 h4
          injection h with h; subst h
          exact .lk 2 _ nm e (.inl ⟨rfl, rfl⟩) h1 h2
        · cases h
      · split at h
        · next hk =>
          subst hk
          split at h
          · next hc =>
            obtain ⟨h1, h2, h3, h4⟩ := hc
            rw [List.isEmpty_iff] at h3 h4
            subst h3 h4
            injection h with h; subst h
            exact .lk 3 _ nm e (.inr ⟨rfl, rfl⟩) h1 h2
          · cases h
        · split at h
          · next hk =>
            subst hk
            split at h
            · next hc =>
              obtain ⟨h1, h2, h3⟩ := hc
              rw [List.isEmpty_iff] at h2 h3
              subst h1 h2 h3
              split at h
              · next y hy => injection h with h; subst h; exact .asrt e y hy
              · cases h
            · cases h
          · split at h
            · next hk =>
              subst hk
              split at h
              · next hc =>
                subst hc
                split at h
                · next a b c ha hb hc => injection h with h; subst h; exact .iff e body els a b c ha hb hc
                · cases h
              · cases h
            · split at h
              · next hk =>
                subst hk
                split at h
                · next hc =>
                  obtain ⟨h1, h2⟩ := hc
                  rw [List.isEmpty_iff] at h2
                  subst h1 h2
                  split at h
                  · next a b ha hb => injection h with h; subst h; exact .whl e body a b ha hb
                  · cases h
                · cases h
              · split at h
                · next hk =>
                  subst hk
                  split at h
                  · next hc =>
                    obtain ⟨h1, h2, h3, h4⟩ := hc
                    rw [List.isEmpty_iff] at h3 h4
                    subst h1 h3 h4
                    injection h with h; subst h
                    exact .skp e h2
                  · cases h
                · cases h

/-- What is asked of expressions and names. -/
structure FitsS : Prop where
  xApart : ∀ e e' x y r r', prX e = some x → prX e' = some y → Delim r → Delim r' → x ++ r = y ++ r' → e = e' ∧ x = y ∧ r = r'
  noOne : ∀ e e', isNo e = true → isNo e' = true → e = e'
  nameTok : ∀ x, isName x = true → x ≠ [] ∧ ∀ c ∈ x, tokch c = true
  kLock : isName [108, 111, 99, 107] = false
  kUnlock : isName [117, 110, 108, 111, 99, 107] = false
  kAssert : isName [97, 115, 115, 101, 114, 116] = false
  kIf : isName [105, 102] = false
  kWhile : isName [119, 104, 105, 108, 101] = false
  kSkip : isName [115, 107, 105, 112] = false

/-- What comes behind a block's statements. -/
def Term (d : Nat) (r : List UInt8) : Prop := ∃ q, r = List.replicate (2 * d) 32 ++ 125 :: q

theorem mg_term (d : Nat) (q : List UInt8) : Term (d + 1) (mg d ++ 125 :: q) := ⟨q, by rw [mg, show 2 * (d + 1) = 2 * d + 2 by omega]⟩

variable {prX isName isNo}

/-- The word with which a statement's line begins. -/
theorem shapeS_word (F : FitsS prX isName isNo) {d : Nat} {s : St} {x : List UInt8} (h : ShapeS prX isName isNo d s x) : ∃ w c q, x = mg d ++ (w ++ c :: q) := by
  cases h with
  | assign nm e x hn hx => exact ⟨nm, 32, _, rfl⟩
  | lk k w nm e hk hn he => exact ⟨w, 32, _, rfl⟩
  | asrt e x hx => exact ⟨[97, 115, 115, 101, 114, 116], 32, _, rfl⟩
  | iff e body els x y z hx hy hz => exact ⟨[105, 102], 32, _, rfl⟩
  | whl e body x y hx hy => exact ⟨[119, 104, 105, 108, 101], 32, _, rfl⟩
  | skp e he => exact ⟨[115, 107, 105, 112], 59, _, rfl⟩

theorem lk_tok {k : Int} {w : List UInt8} (hk : (k = 2 ∧ w = [108, 111, 99, 107]) ∨ (k = 3 ∧ w = [117, 110, 108, 111, 99, 107])) : ∀ u ∈ w, tokch u = true := by
  rcases hk with ⟨_, rfl⟩ | ⟨_, rfl⟩ <;> decide

end
end Go.Proofs.YtcmahiphfpgadaaGreatDoor

/- Statements in memory; whether they may be printed. -/
namespace Go.Proofs.YtcmahiphfpgadaaGreatDoor
open Go.RowKit
set_option linter.unusedVariables false

/-- A statement, with where its blocks lie. -/
inductive ST where
  | mk (k : Int) (nm : ByteArray) (e : ET) (a1 : Option Addr) (c1 : Nat) (body : List ST) (a2 : Option Addr) (c2 : Nat) (els : List ST)

def st9 (k : Int) (nm : ByteArray) (e : List Value) (s1 s2 : Value) : List Value := .int .i64 k :: .string nm :: (e ++ [s1, s2])

def ST.cells : ST → List Value
  | .mk k nm e a1 c1 body a2 c2 els => st9 k nm e.cells (.slice a1 body.length c1) (.slice a2 els.length c2)

mutual
def ST.st : ST → St
  | .mk k nm e _ _ body _ _ els => .mk k nm.data.toList e.ex (ST.sts body) (ST.sts els)
def ST.sts : List ST → List St
  | [] => []
  | s :: r => s.st :: ST.sts r
end

theorem ST.sts_eq : ∀ ks : List ST, ST.sts ks = ks.map ST.st
  | [] => rfl
  | e :: r => by rw [ST.sts, ST.sts_eq r]; rfl

mutual
def ST.In (B : Nat) (w : World) : ST → Prop
  | .mk k nm e a1 c1 body a2 c2 els => (-9223372036854775808 ≤ k ∧ k ≤ 9223372036854775807) ∧ e.In B w ∧
    (body.length ≤ 1048576 ∧ body.length ≤ c1 ∧ (body = [] ∨ ∃ g o, a1 = some ⟨g, o, none⟩ ∧ g < B ∧ ST.Row B w g body o)) ∧
    (els.length ≤ 1048576 ∧ els.length ≤ c2 ∧ (els = [] ∨ ∃ g o, a2 = some ⟨g, o, none⟩ ∧ g < B ∧ ST.Row B w g els o))
def ST.Row (B : Nat) (w : World) (g : Nat) : List ST → Nat → Prop
  | [], _ => True
  | s :: r, o => w.rangeAt g o s.cells ∧ s.In B w ∧ ST.Row B w g r (o + 9)
end

theorem ST.cells_len (s : ST) : s.cells.length = 9 := by cases s; simp [ST.cells, st9, ET.cells_len]

mutual
theorem ST.In.old {B : Nat} {w w' : World} (hO : Old B w w') : ∀ {s : ST}, s.In B w → s.In B w'
  | .mk k nm e a1 c1 body a2 c2 els, h => by
    unfold ST.In at h ⊢
    obtain ⟨h1, h2, ⟨h3, h4, h5⟩, h6, h7, h8⟩ := h
    refine ⟨h1, h2.old hO, ⟨h3, h4, ?_⟩, h6, h7, ?_⟩
    · rcases h5 with h5 | ⟨g, o, ha, hg, hr⟩
      · exact .inl h5
      · exact .inr ⟨g, o, ha, hg, ST.Row.old hO hg hr⟩
    · rcases h8 with h8 | ⟨g, o, ha, hg, hr⟩
      · exact .inl h8
      · exact .inr ⟨g, o, ha, hg, ST.Row.old hO hg hr⟩
theorem ST.Row.old {B : Nat} {w w' : World} (hO : Old B w w') {g : Nat} (hg : g < B) : ∀ {ks : List ST} {o : Nat}, ST.Row B w g ks o → ST.Row B w' g ks o
  | [], o, _ => trivial
  | s :: r, o, h => by
    unfold ST.Row at h ⊢
    exact ⟨hO.range hg h.1, ST.In.old hO h.2.1, ST.Row.old hO hg h.2.2⟩
end

theorem ST.Row.at {B g : Nat} {w : World} : ∀ {ks : List ST} {o : Nat}, ST.Row B w g ks o → ∀ (i : Nat) (e : ST), ks[i]? = some e → w.rangeAt g (o + i * 9) e.cells ∧ e.In B w
  | [], o, _, i, e, h => by simp at h
  | x :: r, o, hr, 0, e, h => by
    unfold ST.Row at hr
    simp at h
    subst h
    exact ⟨by simpa using hr.1, hr.2.1⟩
  | x :: r, o, hr, i + 1, e, h => by
    unfold ST.Row at hr
    have := ST.Row.at hr.2.2 i e (by simpa using h)
    rw [show o + (i + 1) * 9 = o + 9 + i * 9 by omega]
    exact this

/-- A row of statements in memory. -/
def RowS (B : Nat) (w : World) (a : Option Addr) (c : Nat) (ks : List ST) : Prop := ks.length ≤ 1048576 ∧ ks.length ≤ c ∧ (ks = [] ∨ ∃ g o, a = some ⟨g, o, none⟩ ∧ g < B ∧ ST.Row B w g ks o)

theorem RowS.old {B c : Nat} {w w' : World} {a : Option Addr} {ks : List ST} (h : RowS B w a c ks) (hO : Old B w w') : RowS B w' a c ks := by
  obtain ⟨h1, h2, h | ⟨g, o, ha, hg, hr⟩⟩ := h
  · exact ⟨h1, h2, .inl h⟩
  · exact ⟨h1, h2, .inr ⟨g, o, ha, hg, ST.Row.old hO hg hr⟩⟩

theorem RowS.at {B c : Nat} {w : World} {a : Option Addr} {ks : List ST} (h : RowS B w a c ks) (i : Nat) (k : ST) (hk : ks[i]? = some k) : ∃ g o, a = some ⟨g, o, none⟩ ∧ g < B ∧ w.rangeAt g (o + i * 9) k.cells ∧ k.In B w := by
  obtain ⟨_, _, h | ⟨g, o, ha, hg, hr⟩⟩ := h
  · rw [h] at hk; simp at hk
  · obtain ⟨h1, h2⟩ := hr.at i k hk
    exact ⟨g, o, ha, hg, h1, h2⟩

theorem ET.one' (e : ET) : ∀ v ∈ e.cells, v.oneCell' = true := e.one

theorem ST.one (s : ST) : ∀ v ∈ s.cells, v.oneCell' = true := by
  cases s with
  | mk k nm e a1 c1 body a2 c2 els =>
    intro v hv
    simp only [ST.cells, st9, List.mem_cons, List.mem_append, List.not_mem_nil, or_false] at hv
    rcases hv with rfl | rfl | hv | rfl | rfl
    · rfl
    · rfl
    · exact e.one v hv
    · rfl
    · rfl

theorem i38 : (Tryz.prog.info? 87).map (·.size) = some 9 := by kernel_rfl
theorem z38 : (Tryz.prog.info? 87).map (fun i => (i.zero, i.size)) = some (some (.agg (st9 0 ⟨#[]⟩ (ex5 0 0 0 ⟨#[]⟩ (.slice none 0 0)) (.slice none 0 0) (.slice none 0 0)).toArray), 9) := by kernel_rfl

/-- The cells of a statement's block, one by one. -/
theorem st_cells {w : World} {g : Nat} {k : Int} {nm : ByteArray} {op t b : Nat} {enm : ByteArray} {es s1 s2 : Value} (h : At 87 w g (st9 k nm (ex5 op t b enm es) s1 s2)) :
    w.cell? ⟨g, 0, none⟩ = some (.int .i64 k) ∧ w.cell? ⟨g, 1, none⟩ = some (.string nm) ∧ w.cell? ⟨g, 2, none⟩ = some (.int .u8 (op : Int)) ∧ w.cell? ⟨g, 3, none⟩ = some (.int .u8 (t : Int)) ∧
    w.cell? ⟨g, 4, none⟩ = some (.int .u64 (b : Int)) ∧ w.cell? ⟨g, 5, none⟩ = some (.string enm) ∧ w.cell? ⟨g, 6, none⟩ = some es ∧ w.cell? ⟨g, 7, none⟩ = some s1 ∧ w.cell? ⟨g, 8, none⟩ = some s2 := by
  refine ⟨?_, ?_, ?_, ?_, ?_, ?_, ?_, ?_, ?_⟩ <;> (rw [h.cell]; rfl)

mutual
/-- Whether a statement may be printed. -/
def mayS (d : Nat) : St → Bool
  | .mk k nm e body els =>
    if k = 1 then isNm nm && (mayE 32 e && (body.isEmpty && els.isEmpty))
    else if k = 2 ∨ k = 3 then isNm nm && (samX e noE && (body.isEmpty && els.isEmpty))
    else if k = 4 then decide (nm = []) && (mayE 32 e && (body.isEmpty && els.isEmpty))
    else if k = 5 then decide (nm = []) && (mayE 32 e && (mayB (d + 1) body && mayB (d + 1) els))
    else if k = 6 then decide (nm = []) && (mayE 32 e && (mayB (d + 1) body && els.isEmpty))
    else if k = 7 then decide (nm = []) && (samX e noE && (body.isEmpty && els.isEmpty))
    else false
def mayB (d : Nat) : List St → Bool
  | [] => true
  | s :: r => decide (d ≤ 32) && (mayS d s && mayB d r)
end

theorem mayB_iff (d : Nat) : ∀ ss : List St, mayB d ss = true ↔ (ss = [] ∨ d ≤ 32) ∧ ∀ s ∈ ss, mayS d s = true
  | [] => by simp [mayB]
  | s :: r => by
    rw [mayB, Bool.and_eq_true, Bool.and_eq_true, mayB_iff d r]
    simp only [decide_eq_true_eq, List.mem_cons, forall_eq_or_imp]
    constructor
    · rintro ⟨h1, h2, h3, h4⟩; exact ⟨.inr h1, h2, h4⟩
    · rintro ⟨h1, h2, h3⟩
      have : d ≤ 32 := by
        rcases h1 with h1 | h1
        · cases h1
        · exact h1
      exact ⟨this, h2, .inr this, h3⟩

set_option maxRecDepth 100000 in
set_option maxHeartbeats 1600000 in
theorem noBlocks_any (k : Int) (nm : ByteArray) (op t b : Nat) (enm : ByteArray) (es : Value) (a1 a2 : Option Addr) (n1 n2 c1 c2 : Nat) (w : World) :
    Calls Tryz.prog 142 #[.agg (st9 k nm (ex5 op t b enm es) (.slice a1 n1 c1) (.slice a2 n2 c2)).toArray] w fun r w' => r = .returned (.bool (decide (n1 = 0) && decide (n2 = 0))) ∧ Below w.heap.size w w' := by
  go_enter Tryz.func142, Tryz.ntmps142
  go_wp2_with (first
    | ((with_reducible show wpList _ _ _ _ _ _); refine wpList_box_at rfl 87 (.tmp 0) rfl (st9 k nm (ex5 op t b enm es) (.slice a1 n1 c1) (.slice a2 n2 c2)) rfl ?_; intro w1 hA1 hb1 hs1; clear hs1; refine Hid.out ?_))
  refine hidU ?_
  obtain ⟨-, -, -, -, -, -, -, q7, q8⟩ := st_cells hA1
  clear hA1
  by_cases h1 : n1 = 0
  · subst h1
    by_cases h2 : n2 = 0
    · subst h2
      go_wp2
      go_ret
      exact ⟨rfl, hb1⟩
    · have e2 : ((n2 : Int) == 0) = false := by rw [beq_eq_false_iff_ne]; omega
      have d2 : decide (n2 = 0) = false := decide_eq_false h2
      clear h2
      go_wp2
      go_ret
      exact ⟨rfl, hb1⟩
  · have e1 : ((n1 : Int) == 0) = false := by rw [beq_eq_false_iff_ne]; omega
    have d1 : decide (n1 = 0) = false := decide_eq_false h1
    clear h1
    go_wp2
    go_ret
    exact ⟨by rw [d1]; rfl, hb1⟩

theorem samX_noE (e : Ex) : samX e noE = true ↔ e = noE := by
  cases e with
  | mk op t b nm ks =>
    unfold noE
    rw [samX]
    cases ks with
    | nil => simp [samL, and_assoc]
    | cons x r => simp [samL]

set_option maxRecDepth 100000 in
set_option maxHeartbeats 1600000 in
theorem noExpr_any (B : Nat) (e : ET) (w : World) (hin : e.In B w) (hBw : B ≤ w.heap.size) :
    Calls Tryz.prog 143 #[.agg e.cells.toArray] w fun r w' => r = .returned (.bool (samX e.ex noE)) ∧ Below w.heap.size w w' := by
  have hS := sameExpr_any B (SizeOf.sizeOf e + 1) e (by omega) (.mk 0 0 0 ⟨#[]⟩ none 0 [])
  have hz : ∀ w, (ET.mk 0 0 0 ⟨#[]⟩ none 0 []).In B w := fun w => by
    unfold ET.In
    exact ⟨by decide, by decide, by decide, by simp, by simp, .inl rfl⟩
  have hx : samX e.ex (ET.mk 0 0 0 ⟨#[]⟩ none 0 []).ex = samX e.ex noE := rfl
  rw [hx] at hS
  obtain ⟨R, hR⟩ : ∃ R, Hid (R = samX e.ex noE) := ⟨_, (rfl : samX e.ex noE = _)⟩
  rw [← hR.out] at hS ⊢
  have HI : Hid (e.In B w) := hin
  clear hin hx
  go_enter Tryz.func143, Tryz.ntmps143
  go_wp2_with (first
    | ((with_reducible show wpList _ _ _ _ _ _); refine wpList_box_at rfl 34 (.tmp 0) rfl e.cells rfl ?_; intro w1 hA1 hb1 hs1; clear hs1)
    | ((with_reducible show wpList _ _ _ _ _ _); refine wpList_load_at (P := Tryz.prog) rfl 34 (.tmp 1) rfl w.heap.size rfl 34 e.cells hA1 _ Tryz.underlying34 rfl (by rw [ET.cells_len]; exact i29) ?_))
  refine (hS w1 (HI.out.old (Old.of_below hb1 hBw)) (hz w1) (by have := hb1.size; omega)).mono ?_
  rintro r w2 ⟨rfl, hb2⟩
  go_wp2
  go_ret
  exact ⟨rfl, hb1.trans (hb2.mono hb1.size)⟩

end Go.Proofs.YtcmahiphfpgadaaGreatDoor

/- Whether statements may be printed. -/
namespace Go.Proofs.YtcmahiphfpgadaaGreatDoor
open Go.RowKit
set_option linter.unusedVariables false

/-- What asking whether a statement may be printed does. -/
def MayW (B : Nat) (s : ST) : Prop := ∀ (d : Nat) (w : World), d ≤ 32 → s.In B w → B ≤ w.heap.size → Tab w → gB ≤ w.heap.size →
    Calls Tryz.prog 124 #[.agg s.cells.toArray, .int .i64 (d : Int)] w fun r w' => r = .returned (.bool (mayS d s.st)) ∧ Below w.heap.size w w'

set_option maxRecDepth 100000 in
set_option maxHeartbeats 3200000 in
theorem mayBlock_of (B : Nat) (ss : List ST) (hS : ∀ s ∈ ss, MayW B s) (d : Nat) (hd : d ≤ 33) (a : Option Addr) (c : Nat) (w : World) (hr : RowS B w a c ss) (hBw : B ≤ w.heap.size) (hT : Tab w) (h16 : gB ≤ w.heap.size) :
    Calls Tryz.prog 97 #[.slice a ss.length c, .int .i64 (d : Int)] w fun r w' => r = .returned (.bool (mayB d (ss.map ST.st))) ∧ Below w.heap.size w w' := by
  obtain ⟨R, hR⟩ : ∃ R, Hid (R = mayB d (ss.map ST.st)) := ⟨_, (rfl : _ = mayB _ _)⟩
  rw [← hR.out]
  obtain ⟨n, hn⟩ : ∃ n, Hid (n = ss.length) := ⟨_, (rfl : ss.length = _)⟩
  have hl := hr.1
  have hk := hr.2.1
  rw [← hn.out] at hl hk ⊢
  have HS : Hid (∀ s ∈ ss, MayW B s) := hS
  have HR : Hid (RowS B w a c ss) := hr
  clear hS hr
  go_enter Tryz.func97, Tryz.ntmps97
  go_wp2_with fail
  go_loopw [9] (fun j wr => ∃ i : Nat, j = .int .i64 (i : Int) ∧ i ≤ n ∧ Hid (Below w.heap.size w wr ∧ (i = 0 ∨ d ≤ 32) ∧ ∀ s ∈ (ss.take i).map ST.st, mayS d s = true)) (fun j _ => n - (intOf j).toNat)
  case atStart => exact ⟨0, rfl, by omega, Below.refl _ _, .inl rfl, by simp⟩
  case round =>
    obtain ⟨i, rfl, hi, hX⟩ := hrel
    by_cases hc : i < n
    · obtain ⟨s, hs⟩ : ∃ k, ss[i]? = some k := ⟨ss[i]'(by rw [← hn.out]; exact hc), by rw [List.getElem?_eq_getElem]⟩
      obtain ⟨hbw, hd0, hall⟩ := hX.out
      have hold : Old B w wr := Old.of_below hbw hBw
      obtain ⟨g1, o1, rfl, hg1, hr1, hs1⟩ := (HR.out.old hold).at i s hs
      have HK : Hid (s.In B wr ∧ B ≤ wr.heap.size ∧ Tab wr ∧ gB ≤ wr.heap.size) := ⟨hs1, by have := hbw.size; omega, hT.below hbw h16, by have := hbw.size; omega⟩
      clear hX hs1 hold HR
      go_wp2_with (first
        | ((with_reducible show wpList _ _ _ _ _ _); refine wpList_load_mid (P := Tryz.prog) rfl 87 (.tmp 11) rfl g1 (o1 + i * 9) (by first | rfl | (simp; done)) s.cells _ hr1 Tryz.underlying87 rfl (by rw [ST.cells_len]; exact i38) ?_)
        | ((with_reducible show wpList _ _ _ _ _ _); refine wpList_alloc_at rfl 87 rfl _ 9 z38 ?_; intro w2 hA2 hb2 hs2)
        | ((with_reducible show wpList _ _ _ _ _ _); refine wpList_store_at (P := Tryz.prog) rfl 87 (.tmp 6) (.tmp 12) rfl wr.heap.size s.cells rfl rfl 87 _ hA2 (by rw [ST.cells_len]; exact i38) (by rw [ST.cells_len]; rfl) s.one ?_; intro w3 hA3 hb3 hs3; refine Hid.out ?_))
      refine hidU ?_
      have hB3 : Below wr.heap.size wr w3 := hb3.below hb2 (Nat.le_refl _) (by omega)
      have hw3 : Below w.heap.size w w3 := hbw.trans (hB3.mono hbw.size)
      obtain ⟨p1, p2, p3, p4⟩ := HK.out
      have hI : d ≤ 32 → Calls Tryz.prog 124 #[.agg s.cells.toArray, .int .i64 (d : Int)] w3 fun r w' => r = .returned (.bool (mayS d s.st)) ∧ Below w3.heap.size w3 w' := fun h => HS.out s (List.mem_of_getElem? hs) d w3 h (p1.old (Old.of_below hB3 p2)) (by have := hB3.size; omega) (p3.below hB3 p4) (by have := hB3.size; omega)
      have hA3' := hA3
      clear hb3 hb2 hA2 hr1 hs2 hs3 p1 p2 p3 p4 HK HS hA3 hB3 hbw
      by_cases hd32 : d ≤ 32
      · have hI := hI hd32
        have hgt : ¬ (32 : Int) < (d : Int) := by omega
        cases s with
        | mk k nm e a1 c1 body a2 c2 els =>
        cases e with
        | mk op t b enm ea ec eks =>
        obtain ⟨n1, hn1⟩ : ∃ n, Hid (n = body.length) := ⟨_, (rfl : body.length = _)⟩
        obtain ⟨n2, hn2⟩ : ∃ n, Hid (n = els.length) := ⟨_, (rfl : els.length = _)⟩
        obtain ⟨n3, hn3⟩ : ∃ n, Hid (n = eks.length) := ⟨_, (rfl : eks.length = _)⟩
        have hA4 : At 87 w3 wr.heap.size (st9 k nm (ex5 op t b enm (.slice ea n3 ec)) (.slice a1 n1 c1) (.slice a2 n2 c2)) := by rw [hn1.out, hn2.out, hn3.out]; exact hA3'
        have hI' : Calls Tryz.prog 124 #[.agg (st9 k nm (ex5 op t b enm (.slice ea n3 ec)) (.slice a1 n1 c1) (.slice a2 n2 c2)).toArray, .int .i64 (d : Int)] w3 fun r w' => r = .returned (.bool (mayS d (ST.mk k nm (ET.mk op t b enm ea ec eks) a1 c1 body a2 c2 els).st)) ∧ Below w3.heap.size w3 w' := by rw [hn1.out, hn2.out, hn3.out]; exact hI
        obtain ⟨q0, q1, q2, q3, q4, q5, q6, q7, q8⟩ := st_cells hA4
        obtain ⟨M, hM⟩ : ∃ M, Hid (M = mayS d (ST.mk k nm (ET.mk op t b enm ea ec eks) a1 c1 body a2 c2 els).st) := ⟨_, (rfl : _ = mayS _ _)⟩
        rw [← hM.out] at hI'
        clear hI hA3' hA4
        go_wp2_with fail
        refine hI'.mono ?_
        rintro r w6 ⟨rfl, hb6⟩
        have hw6 : Below w.heap.size w w6 := hw3.trans (hb6.mono hw3.size)
        clear hI' hb6 hw3 q0 q1 q2 q3 q4 q5 q6 q7 q8
        cases M with
        | false =>
          have hRf : R = false := by
            rw [hR.out, Bool.eq_false_iff]
            intro h
            have := ((mayB_iff d _).1 h).2 _ (List.mem_map.2 ⟨_, List.mem_of_getElem? hs, rfl⟩)
            rw [← hM.out] at this
            cases this
          go_wp2
          go_ret
          exact ⟨by rw [hRf]; rfl, hw6⟩
        | true =>
          go_wp2
          go_roundw
          case rel =>
            refine ⟨i + 1, by go_num, by omega, hw6, .inr hd32, fun x hx => ?_⟩
            rw [List.take_add_one, hs, List.map_append, List.mem_append] at hx
            rcases hx with hx | hx
            · exact hall x hx
            · simp at hx; rw [hx]; exact hM.out.symm
          case measure => simp [intOf]; omega
      · have hgt : (32 : Int) < (d : Int) := by omega
        have hRf : R = false := by
          rw [hR.out, Bool.eq_false_iff]
          intro h
          rcases ((mayB_iff d _).1 h).1 with h | h
          · have := congrArg List.length h
            rw [List.length_map, ← hn.out] at this
            simp at this
            omega
          · exact hd32 h
        clear hI hA3'
        go_wp2_with fail
        go_ret
        exact ⟨by rw [hRf]; rfl, hw3⟩
    · have hin : i = n := by omega
      obtain ⟨hbw, hd0, hall⟩ := hX.out
      have hRt : R = true := by
        rw [hR.out, mayB_iff]
        refine ⟨?_, fun s hs => hall s (by rw [hin, hn.out, List.take_length]; exact hs)⟩
        rcases hd0 with h | h
        · left
          apply List.length_eq_zero_iff.1
          rw [List.length_map, ← hn.out]
          omega
        · exact .inr h
      clear hX hall hin HR HS
      go_wp2
      go_ret
      exact ⟨by rw [hRt]; rfl, hbw⟩

end Go.Proofs.YtcmahiphfpgadaaGreatDoor
