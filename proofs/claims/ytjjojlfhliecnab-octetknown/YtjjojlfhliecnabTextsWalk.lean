/- The walk of the law OctetTexts over the contracts of what it calls. -/
import Derived.Test.YtjjojlfhliecnabRefWords2
namespace Go.Proofs.Ytjjojlfhliecnab
open Go.RowKit
set_option linter.unusedVariables false

/-- octet.ReadHex, whatever it reads. -/
theorem readHex_all (s : ByteArray) (w : World) (hs : s.size ≤ 268435456) :
    Calls Try.prog 8 #[.string s] w fun e w' => ∃ (ax : Option Addr) (lx cx : Nat) (E : Int) (bs : List UInt8), e = .returned (.tuple #[.slice ax lx cx, .int .i64 E]) ∧ Hid (bs.length = lx) ∧ Row w' ax bs ∧ Below w.heap.size w w' ∧ Hid ((unhex (bytes s) = some bs ∧ E = 0) ∨ (unhex (bytes s) = none ∧ bs = [] ∧ E = 4)) := by
  refine (readHex_any s w hs).mono ?_
  rintro e w' (⟨bs, v, hu, rfl, hown, hb⟩ | ⟨hu, rfl, hb⟩)
  · obtain ⟨ax, cx, rfl, _, _, hrow⟩ := hown.row
    exact ⟨ax, _, cx, 0, bs, rfl, rfl, hrow, hb, .inl ⟨hu, rfl⟩⟩
  · exact ⟨none, 0, 0, 4, [], rfl, rfl, .inl rfl, hb, .inr ⟨hu, rfl, rfl⟩⟩

theorem words_all (s : ByteArray) (w : World) (hs : s.size ≤ 268435456) :
    Calls Try.prog 9 #[.string s] w fun e w' => ∃ (ws : List (List UInt8)) (ax : Option Addr) (lx cx : Nat) (E : Int), e = .returned (.tuple #[.slice ax lx cx, .int .i64 E]) ∧ Hid (ws.length = lx) ∧ Hid (WordsIs (bytes s) ws E) ∧ RowS w' ax ws ∧ Below w.heap.size w w' := by
  refine (words_any s w hs).mono ?_
  rintro e w' ⟨ws, v, E, rfl, hw, hown, hb⟩
  obtain ⟨ax, cx, rfl, _, hrow⟩ := hown.row
  exact ⟨ws, ax, _, cx, E, rfl, rfl, hw, hrow, hb⟩

theorem sameTexts_of (a1 a2 : Option Addr) (n1 n2 c1 c2 : Nat) (xs : List (List UInt8)) (w : World) (h1 : RowS w a1 xs) (h2 : RowS w a2 xs) (e1 : xs.length = n1) (e2 : xs.length = n2) (hx : xs.length ≤ 1099511627776) :
    Calls Try.prog 29 #[.slice a1 n1 c1, .slice a2 n2 c2] w fun e w' => e = .returned (.bool true) ∧ Below w.heap.size w w' := by
  subst e1
  subst e2
  have := sameTexts_any a1 a2 c1 c2 xs xs w h1 h2 hx hx
  rwa [beq_self_eq_true] at this

theorem wordsIs_len {l : List UInt8} {ws : List (List UInt8)} {E : Int} (h : WordsIs l ws E) : ws.length ≤ 64 := by
  rcases h with ⟨_, rfl, _⟩ | ⟨_, _, rfl, _⟩ | ⟨_, h, rfl, _⟩
  · simp
  · simp
  · exact h

end Go.Proofs.Ytjjojlfhliecnab
