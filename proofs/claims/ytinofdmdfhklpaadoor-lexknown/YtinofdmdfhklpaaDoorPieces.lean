/- lex.number, lex.point, lex.clings, strings.Clone. -/
import Derived.Test.YtinofdmdfhklpaaDoorIntMath
import Derived.Test.YtinofdmdfhklpaaDoorCells
import Derived.Test.YtinofdmdfhklpaaDoorTokenEnd
import Derived.Test.YtinofdmdfhklpaaDoorReadDec
namespace Go.Proofs.YtinofdmdfhklpaaDoor
open Go.RowKit
set_option linter.unusedVariables false

/-- The library's error is laid. -/
def ErrR (w : World) : Prop := ∃ ev, w.cell? ⟨2, 0, none⟩ = some ev ∧ (ev = .nilIface ∨ ∃ te pe, ev = .iface te pe)

theorem ErrR.below {w w' : World} (h : ErrR w) (hb : Below w.heap.size w w') : ErrR w' := by
  obtain ⟨ev, h1, h2⟩ := h
  exact ⟨ev, by rw [hb.cell (lt_of_cell h1)]; exact h1, h2⟩

theorem results_at_tmp {P : Program} {fn : Func} {p u : Tmp} {ty : TypeId} (h : fn.results = #[.cell p ty, .tmp u]) (tmps : Array Value) (w : World) (g : Nat) (t : TypeId) (cs : List Value) (d : TypeDesc)
    (hp : tmps.getD p undef = .pointer (some ⟨g, 0, none⟩)) (hg : At t w g cs)
    (hu : P.underlying ty = some d) (hd : (match d with | .struct _ | .array _ _ => true | _ => false) = true) (hi : (P.info? ty).map (·.size) = some cs.length) :
    (results fn tmps).run P w = .ok (.tuple #[.agg cs.toArray, tmps.getD u undef]) w := by
  have hp' : tmps[p]?.getD undef = .pointer (some ⟨g, 0, none⟩) := by simpa using hp
  have hl := run_loadVar_row (P := P) w g t ty cs.toArray (0, 0) d hg hu hd (by simpa using hi)
  simp [results, h, hp', asAddr, hl]

theorem results_tmp_at {P : Program} {fn : Func} {p u : Tmp} {ty : TypeId} (h : fn.results = #[.tmp u, .cell p ty]) (tmps : Array Value) (w : World) (g : Nat) (t : TypeId) (cs : List Value) (d : TypeDesc)
    (hp : tmps.getD p undef = .pointer (some ⟨g, 0, none⟩)) (hg : At t w g cs)
    (hu : P.underlying ty = some d) (hd : (match d with | .struct _ | .array _ _ => true | _ => false) = true) (hi : (P.info? ty).map (·.size) = some cs.length) :
    (results fn tmps).run P w = .ok (.tuple #[tmps.getD u undef, .agg cs.toArray]) w := by
  have hp' : tmps[p]?.getD undef = .pointer (some ⟨g, 0, none⟩) := by simpa using hp
  have hl := run_loadVar_row (P := P) w g t ty cs.toArray (0, 0) d hg hu hd (by simpa using hi)
  simp [results, h, hp', asAddr, hl]

/-- A value's two cells. -/
def val2 (t b : Nat) : List Value := [.int .u8 (t : Int), .int .u64 (b : Int)]
theorem z32 : (Tryd.prog.info? 32).map (fun i => (i.zero, i.size)) = some (some (.agg (val2 0 0).toArray), 2) := by kernel_rfl
theorem i32 : (Tryd.prog.info? 32).map (·.size) = some 2 := by kernel_rfl
theorem one2 (t b : Nat) : ∀ v ∈ val2 t b, v.oneCell' = true := by intro v hv; simp [val2] at hv; rcases hv with rfl | rfl <;> rfl

theorem clone_any (s : ByteArray) (w : World) (hlim : s.size ≤ 1099511627776) : Calls Tryd.prog 20 #[.string s] w fun e w' => e = .returned (.string s) ∧ Below w.heap.size w w' := by
  go_enter Tryd.func20, Tryd.ntmps20
  go_wp2_with fail
  refine (Tryd.stringslite_Clone s _ (by omega)).mono ?_
  rintro e w1 ⟨rfl, hb⟩
  go_wp2
  go_ret
  exact ⟨rfl, hb⟩

theorem clings_any (K : Nat) (s : ByteArray) (w : World) : Calls Tryd.prog 15 #[.int .i64 (K : Int), .string s] w fun e w' => e = .returned (.bool (clB K (bytes s))) ∧ w' = w := by
  by_cases h0 : s.size = 0
  · have he := is_empty h0
    have hn : bytes s = [] := List.eq_nil_of_length_eq_zero (by rw [bytes_length]; exact h0)
    rw [hn, clB, Bool.and_false]
    go_enter Tryd.func15, Tryd.ntmps15
    go_wp2
    go_ret
    exact ⟨rfl, rfl⟩
  · have hp : 0 < s.size := by omega
    have he := not_empty hp
    have hd := drop_at s 0 hp
    rw [List.drop_zero] at hd
    rw [hd, clB]
    by_cases hK : K = 2 ∨ K = 3
    · have hKb : (decide (K = 2) || decide (K = 3)) = true := by simpa using hK
      rw [hKb, Bool.true_and]
      have hK' : (K : Int) = 2 ∨ (K : Int) = 3 := by omega
      cases hl : isLet s[0].toNat
      · rcases hK' with h | h
        all_goals
          rw [h]
          go_enter Tryd.func15, Tryd.ntmps15
          go_wp2_with (first | (go_at_call 24; refine (isLetter_at _ _ false hl).mono ?_; rintro e w1 ⟨rfl, rfl⟩))
          go_ret
          refine ⟨?_, rfl⟩
          simp
          try (rw [Bool.eq_iff_iff]; simp)
          try omega
      · rcases hK' with h | h
        all_goals
          rw [h]
          go_enter Tryd.func15, Tryd.ntmps15
          go_wp2_with (first | (go_at_call 24; refine (isLetter_at _ _ true hl).mono ?_; rintro e w1 ⟨rfl, rfl⟩))
          go_ret
          exact ⟨rfl, rfl⟩
    · have hKb : (decide (K = 2) || decide (K = 3)) = false := by simpa using hK
      rw [hKb, Bool.false_and]
      have h2 : ((K : Int) != 2) = true := by simp; omega
      have h3 : ((K : Int) != 3) = true := by simp; omega
      go_enter Tryd.func15, Tryd.ntmps15
      go_wp2
      go_ret
      exact ⟨rfl, rfl⟩

end Go.Proofs.YtinofdmdfhklpaaDoor
