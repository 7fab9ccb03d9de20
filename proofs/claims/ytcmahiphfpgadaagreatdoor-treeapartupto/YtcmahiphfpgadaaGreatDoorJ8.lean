/- Joined texts of the proof. -/
import Derived.Test.YtcmahiphfpgadaaGreatDoorJ6
import Derived.Test.YtcmahiphfpgadaaGreatDoorJ7
import Derived.Test.YtcmahiphfpgadaaGreatDoorJ1
import Derived.Lib.Builder
import Derived.Lib.AppendStr
import Derived.Lib.UnsafeStr
import Derived.Lib.Walk
import Derived.Laws.Externs
import Derived.Great.BuildSlice

/- Values' texts. -/
namespace Go.Proofs.YtcmahiphfpgadaaGreatDoor
open Go.RowKit
set_option linter.unusedVariables false

/-- The table of powers is laid. -/
def Tab (w : World) : Prop := Lib.TabIs Tryz.prog w "internal/strconv.uint64pow10" .u64 Lib.pow10Tab

/-- The package variables lie in the first blocks. -/
def gB : Nat := 4

theorem Tab.below {B : Nat} {w w' : World} (h : Tab w) (hb : Below B w w') (hB : gB ≤ B) : Tab w' := by
  unfold Tab Lib.TabIs World.var? at *
  obtain ⟨g, hg, hx⟩ := Option.bind_eq_some_iff.1 h
  have hgl : g < gB := by
    have : Tryz.prog.globalNamed "internal/strconv.uint64pow10" = some g := hg
    have h2 : (Tryz.prog.globalNamed "internal/strconv.uint64pow10").all (fun g => decide (g < gB)) = true := by kernel_rfl
    rw [this] at h2
    simpa using h2
  rw [hg, Option.bind_some, hb.block g (by omega)]
  exact hx

theorem below_grow (w : World) (k : Nat) (os : Array Obj) : Below w.heap.size w (Sort.grow (w.drewN k) os) :=
  ⟨rfl, rfl, rfl, by simp [Sort.grow], fun i hi => by simp [Sort.grow, Array.getElem?_append_left hi]⟩

/-- A word as a number with a sign. -/
def sgn (b : Nat) : Int := if b < 9223372036854775808 then (b : Int) else (b : Int) - 18446744073709551616

/-- A value's text. -/
def valTx (t b : Nat) : List UInt8 := if t = 1 then Lib.itoa (sgn b) else if t = 2 then Lib.formatBool (decide (b = 1)) else if t = 3 then textOf (home b) else []
/-- Whether it may be told. -/
def valOk (t b : Nat) : Bool := if t = 1 then decide (b ≠ 9223372036854775808) else if t = 2 then decide (b ≤ 1) else if t = 3 then ((home b == b) && !(Lib.hasPrefix (textOf (home b)) [35])) else false

theorem formatInt_any (b : Nat) (hb : b < 18446744073709551616) (w : World) (hT : Tab w) :
    Calls Tryz.prog 83 #[.int .i64 (sgn b), .int .i64 10] w fun e w' => e = .returned (.string ⟨(Lib.itoa (sgn b)).toArray⟩) ∧ Below w.heap.size w w' := by
  refine (Tryz.strconv_FormatInt_10 (sgn b) (by unfold sgn; split <;> omega) (by unfold sgn; split <;> omega) w hT).mono ?_
  rintro e w' ⟨rfl, k, os, rfl⟩
  exact ⟨rfl, below_grow w k os⟩

theorem conv64 (b : Nat) (hb : b < 18446744073709551616) : IntKind.i64.wrap (b : Int) = sgn b := by
  rw [IntKind.wrap_i64]
  unfold sgn
  split <;> omega

theorem z26 : (Tryz.prog.info? 31).map (fun i => (i.zero, i.size)) = some (some (.agg [.int .u8 0, .int .u64 0].toArray), 2) := by kernel_rfl

set_option maxRecDepth 100000 in
set_option maxHeartbeats 1600000 in
theorem valueText_any (t b : Nat) (ht : t < 256) (hb : b < 18446744073709551616) (w : World) (hT : Tab w) (h16 : gB ≤ w.heap.size) :
    Calls Tryz.prog 40 #[.agg [.int .u8 (t : Int), .int .u64 (b : Int)].toArray] w fun e w' => e = .returned (.tuple #[.string ⟨(valTx t b).toArray⟩, .bool (valOk t b)]) ∧ Below w.heap.size w w' := by
  by_cases h1 : t = 1
  · subst h1
    have hv : valTx 1 b = Lib.itoa (sgn b) := rfl
    have ho : valOk 1 b = decide (b ≠ 9223372036854775808) := rfl
    have hcv := conv64 b hb
    have hgt : decide (sgn b > -9223372036854775808) = decide (b ≠ 9223372036854775808) := by
      congr 1
      unfold sgn
      apply propext
      constructor
      · intro h; split at h <;> omega
      · intro h; split <;> omega
    have hF : ∀ w, Tab w → Calls Tryz.prog 83 #[.int .i64 (sgn b), .int .i64 10] w fun e w' => e = .returned (.string ⟨(Lib.itoa (sgn b)).toArray⟩) ∧ Below w.heap.size w w' := fun w h => formatInt_any b hb w h
    rw [hv, ho]
    obtain ⟨x, hx⟩ : ∃ x, x = sgn b := ⟨_, rfl⟩
    rw [← hx] at hcv hF hgt ⊢
    obtain ⟨L, hL⟩ : ∃ L, L = Lib.itoa x := ⟨_, rfl⟩
    rw [← hL] at hF ⊢
    clear hL hv ho hx
    go_enter Tryz.func40, Tryz.ntmps40
    go_wp2_with fail
    refine (hF _ (hT.below ((Below.refl _ w).alloc (Nat.le_refl _) _) h16)).mono ?_
    rintro e w2 ⟨rfl, hb2⟩
    have hgt' : decide (-9223372036854775808 < x) = decide (b ≠ 9223372036854775808) := hgt
    clear hgt hF hcv
    go_wp2
    go_ret2
    exact ⟨by simp, ((Below.refl _ w).alloc (Nat.le_refl _) _).trans (hb2.mono (by simp))⟩
  by_cases h2 : t = 2
  · subst h2
    have hv : valTx 2 b = Lib.formatBool (decide (b = 1)) := rfl
    have ho : valOk 2 b = decide (b ≤ 1) := rfl
    have hbe : ((b : Int) == 1) = decide (b = 1) := by rw [Bool.eq_iff_iff]; simp; omega
    have hbl : decide ((b : Int) ≤ 1) = decide (b ≤ 1) := by congr 1; apply propext; omega
    rw [hv, ho]
    obtain ⟨B, hB⟩ : ∃ B, B = decide (b = 1) := ⟨_, rfl⟩
    rw [← hB] at hbe ⊢
    have hF : ∀ w, Calls Tryz.prog 84 #[.bool B] w fun e w' => e = .returned (.string ⟨(Lib.formatBool B).toArray⟩) ∧ w' = w := fun w => Tryz.strconv_FormatBool B w
    obtain ⟨L, hL⟩ : ∃ L, L = Lib.formatBool B := ⟨_, rfl⟩
    rw [← hL] at hF ⊢
    rw [← hbl]
    clear hL hv ho hB hbl
    go_enter Tryz.func40, Tryz.ntmps40
    go_wp2_with fail
    go_quiet (first | (go_at_call 84; exact Calls.quiet_of_same (hF _)))
    go_wp2
    go_ret2
    have hx := (Below.refl _ w).alloc (Nat.le_refl _) (.cells #[.int .u8 2, .int .u64 (b : Int)] 31)
    exact ⟨rfl, hx.os, hx.tape, hx.output, hx.size, hx.block⟩
  by_cases h3 : t = 3
  · subst h3
    have hv : valTx 3 b = textOf (home b) := rfl
    have ho : valOk 3 b = ((home b == b) && !(Lib.hasPrefix (textOf (home b)) [35])) := rfl
    have hX : ∀ w, Calls Tryz.prog 85 #[.int .u64 (b : Int)] w fun e w' => e = .returned (.string ⟨(textOf (home b)).toArray⟩) ∧ Below w.heap.size w w' := fun w => text_any b hb w
    have hM : ∀ w, Calls Tryz.prog 86 #[.int .u64 (b : Int)] w fun e w' => e = .returned (.bool (home b == b)) ∧ w' = w := fun w => may_any b w hb
    rw [hv, ho]
    obtain ⟨L, hL⟩ : ∃ L, L = textOf (home b) := ⟨_, rfl⟩
    rw [← hL] at hX ⊢
    obtain ⟨M, hMM⟩ : ∃ M, M = (home b == b) := ⟨_, rfl⟩
    rw [← hMM] at hM ⊢
    clear hL hv ho hMM
    have hP : ∀ w, Calls Tryz.prog 87 #[.string ⟨L.toArray⟩, .string ⟨#[35]⟩] w fun e w' => e = .returned (.bool (Lib.hasPrefix L [35])) ∧ w' = w := fun w => Tryz.strings_HasPrefix ⟨L.toArray⟩ ⟨#[35]⟩ w
    go_enter Tryz.func40, Tryz.ntmps40
    go_wp2_with fail
    refine (hX _).mono ?_
    rintro e w2 ⟨rfl, hb2⟩
    have c1 : w2.cell? ⟨w.heap.size, 1, none⟩ = some (.int .u64 (b : Int)) := by
      rw [World.cell?_of_block (hb2.block _ (by simp))]
      simp
    have hbb : Below w.heap.size w w2 := ((Below.refl _ w).alloc (Nat.le_refl _) _).trans (hb2.mono (by simp))
    clear hb2 hX
    cases M with
    | false =>
      go_wp2_with fail
      refine (hM _).mono ?_
      rintro e w' ⟨rfl, rfl⟩
      go_wp2
      go_ret2
      exact ⟨rfl, hbb⟩
    | true =>
      go_wp2_with fail
      refine (hM _).mono ?_
      rintro e w' ⟨rfl, rfl⟩
      go_wp2_with fail
      refine (hP _).mono ?_
      rintro e w' ⟨rfl, rfl⟩
      go_wp2
      go_ret2
      exact ⟨rfl, hbb⟩
  · have hv : valTx t b = [] := by unfold valTx; rw [if_neg h1, if_neg h2, if_neg h3]
    have ho : valOk t b = false := by unfold valOk; rw [if_neg h1, if_neg h2, if_neg h3]
    rw [hv, ho]
    have e1 : ((t : Int) == 1) = false := by rw [beq_eq_false_iff_ne]; omega
    have e2 : ((t : Int) == 2) = false := by rw [beq_eq_false_iff_ne]; omega
    have e3 : ((t : Int) == 3) = false := by rw [beq_eq_false_iff_ne]; omega
    go_enter Tryz.func40, Tryz.ntmps40
    go_wp2
    go_ret2
    exact ⟨rfl, (Below.refl _ w).alloc (Nat.le_refl _) _⟩

/-- Whether a value may be a literal. -/
def litOk (t b : Nat) : Bool := valOk t b && !(Lib.hasPrefix (valTx t b) [45])

set_option maxRecDepth 100000 in
set_option maxHeartbeats 1600000 in
theorem mayLit_any (t b : Nat) (ht : t < 256) (hb : b < 18446744073709551616) (w : World) (hT : Tab w) (h16 : gB ≤ w.heap.size) :
    Calls Tryz.prog 79 #[.agg [.int .u8 (t : Int), .int .u64 (b : Int)].toArray] w fun e w' => e = .returned (.bool (litOk t b)) ∧ Below w.heap.size w w' := by
  have hV := fun w hT h16 => valueText_any t b ht hb w hT h16
  unfold litOk
  obtain ⟨L, hL⟩ : ∃ L, L = valTx t b := ⟨_, rfl⟩
  obtain ⟨M, hM⟩ : ∃ M, M = valOk t b := ⟨_, rfl⟩
  rw [← hL, ← hM] at hV ⊢
  clear hL hM
  have hP : ∀ w, Calls Tryz.prog 87 #[.string ⟨L.toArray⟩, .string ⟨#[45]⟩] w fun e w' => e = .returned (.bool (Lib.hasPrefix L [45])) ∧ w' = w := fun w => Tryz.strings_HasPrefix ⟨L.toArray⟩ ⟨#[45]⟩ w
  go_enter Tryz.func79, Tryz.ntmps79
  go_wp2_with fail
  refine (hV _ (hT.below ((Below.refl _ w).alloc (Nat.le_refl _) _) h16) (by simp; omega)).mono ?_
  rintro e w2 ⟨rfl, hb2⟩
  have hbb : Below w.heap.size w w2 := ((Below.refl _ w).alloc (Nat.le_refl _) _).trans (hb2.mono (by simp))
  clear hV hb2
  cases M with
  | false =>
    go_wp2
    go_ret
    exact ⟨rfl, hbb⟩
  | true =>
    go_wp2_with fail
    refine (hP _).mono ?_
    rintro e w' ⟨rfl, rfl⟩
    go_wp2
    go_ret
    exact ⟨rfl, hbb⟩

set_option maxRecDepth 100000 in
set_option maxHeartbeats 1600000 in
/-- tree.Value. -/
theorem value_any (t b : Nat) (ht : t < 256) (hb : b < 18446744073709551616) (w : World) (hT : Tab w) (h16 : gB ≤ w.heap.size) :
    Calls Tryz.prog 14 #[.agg [.int .u8 (t : Int), .int .u64 (b : Int)].toArray] w fun e w' => e = .returned (.tuple #[.string ⟨(if valOk t b then valTx t b else []).toArray⟩, .int .i64 (if valOk t b then 0 else 2)]) ∧ Below w.heap.size w w' := by
  have hV := fun w hT h16 => valueText_any t b ht hb w hT h16
  obtain ⟨L, hL⟩ : ∃ L, L = valTx t b := ⟨_, rfl⟩
  obtain ⟨M, hM⟩ : ∃ M, M = valOk t b := ⟨_, rfl⟩
  rw [← hL, ← hM] at hV ⊢
  clear hL hM
  go_enter Tryz.func14, Tryz.ntmps14
  go_wp2_with fail
  refine (hV _ (hT.below ((Below.refl _ w).alloc (Nat.le_refl _) _) h16) (by simp; omega)).mono ?_
  rintro e w2 ⟨rfl, hb2⟩
  have hbb : Below w.heap.size w w2 := ((Below.refl _ w).alloc (Nat.le_refl _) _).trans (hb2.mono (by simp))
  clear hV hb2
  cases M with
  | false =>
    go_wp2
    go_ret2
    exact ⟨rfl, hbb⟩
  | true =>
    go_wp2
    go_ret2
    exact ⟨rfl, hbb⟩

end Go.Proofs.YtcmahiphfpgadaaGreatDoor

/- The text that is put together: a struct with a builder in it, and what writing to it leaves as it was. -/
namespace Go.Proofs.YtcmahiphfpgadaaGreatDoor
open Go.RowKit
set_option linter.unusedVariables false

/-- A writing to the text at block g, made from block B on: all other blocks are as they were, but rows of bytes from B on. -/
structure Wr (B g : Nat) (w w' : World) : Prop where
  os : w'.os = w.os
  tape : w'.tape = w.tape
  output : w'.output = w.output
  size : w.heap.size ≤ w'.heap.size
  block : ∀ k, k < w.heap.size → k ≠ g → (k < B ∨ ∀ cs fr, w.heap[k]? ≠ some (.cells cs 5 fr)) → w'.heap[k]? = w.heap[k]?

theorem Wr.refl (B g : Nat) (w : World) : Wr B g w w := ⟨rfl, rfl, rfl, Nat.le_refl _, fun _ _ _ _ => rfl⟩
theorem Wr.trans {B g : Nat} {a b c : World} (h : Wr B g a b) (k : Wr B g b c) : Wr B g a c :=
  ⟨k.os.trans h.os, k.tape.trans h.tape, k.output.trans h.output, Nat.le_trans h.size k.size, fun i hi hn ht => by
    have e := h.block i hi hn ht
    rw [k.block i (Nat.lt_of_lt_of_le hi h.size) hn ?_, e]
    rcases ht with ht | ht
    · exact .inl ht
    · exact .inr fun cs fr hx => ht cs fr (by rw [← e]; exact hx)⟩
theorem Wr.of_below {B g : Nat} {w w' : World} (h : Below w.heap.size w w') : Wr B g w w' := ⟨h.os, h.tape, h.output, h.size, fun k hk _ _ => h.block k hk⟩
theorem Wr.at {B g t k : Nat} {w w' : World} {cs : List Value} (h : Wr B g w w') (ha : At t w k cs) (hn : k ≠ g) (ht : t ≠ 5) : At t w' k cs := by
  have hx : w.heap[k]? = _ := ha
  unfold At
  rw [h.block k ha.lt hn (.inr fun cs fr he => by rw [hx] at he; injection he with he; injection he with _ h2; exact ht h2)]
  exact ha
theorem Wr.below {B g : Nat} {w w' : World} (h : Wr B g w w') (hB : B ≤ g) (hw : B ≤ w.heap.size) : Below B w w' :=
  ⟨h.os, h.tape, h.output, h.size, fun k hk => h.block k (by omega) (by omega) (.inl hk)⟩

/-- The text's block: the builder's own address, its buffer, the most. -/
def Raw (B : Nat) (w : World) (g : Nat) (m : Nat) (bs : List UInt8) : Prop :=
  B ≤ g ∧ ∃ p v, (p = .pointer none ∨ p = .pointer (some ⟨g, 0, none⟩)) ∧ At 67 w g [p, v, .int .i64 (m : Int)] ∧ w.ownsRow B 5 1 v bs.length (Lib.byteCells bs) ∧ v.ownBlock ≠ some g

theorem ownBlock_ne5 {B g t n : Nat} {w : World} {v : Value} {xs cs : List Value} (h : w.ownsRow B 5 1 v n xs) (hg : At t w g cs) (ht : t ≠ 5) : v.ownBlock ≠ some g := by
  obtain ⟨_, ⟨rfl, _⟩ | ⟨k, cap, cur, rfl, _, hk, _⟩⟩ := h
  · simp [Value.ownBlock]
  · simp only [Value.ownBlock]
    intro e
    injection e with e
    subst e
    have hx : w.heap[k]? = _ := hg
    rw [hk] at hx
    injection hx with hx
    injection hx with _ h2
    exact ht h2.symm

theorem Raw.new {w : World} {g m B : Nat} (hB : B ≤ g) (h : At 67 w g [.pointer none, .slice none 0 0, .int .i64 (m : Int)]) : Raw B w g m [] :=
  ⟨hB, .pointer none, .slice none 0 0, .inl rfl, h, ⟨rfl, .inl ⟨rfl, rfl⟩⟩, by simp [Value.ownBlock]⟩

theorem Raw.lt {B g m : Nat} {w : World} {bs : List UInt8} (h : Raw B w g m bs) : g < w.heap.size := by
  obtain ⟨_, p, v, _, ha, _⟩ := h
  exact ha.lt

theorem Raw.below {B g m : Nat} {w w' : World} {bs : List UInt8} (h : Raw B w g m bs) (hb : Below w.heap.size w w') : Raw B w' g m bs := by
  obtain ⟨hB, p, v, hp, ha, hown, hne⟩ := h
  refine ⟨hB, p, v, hp, ha.below hb, ?_, hne⟩
  obtain ⟨h1, h2 | ⟨k, cap, cur, rfl, hk, hh, hr⟩⟩ := hown
  · exact ⟨h1, .inl h2⟩
  · have hlt : k < w.heap.size := by
      rcases Nat.lt_or_ge k w.heap.size with hlt | hge
      · exact hlt
      · rw [Array.getElem?_eq_none hge] at hh; simp at hh
    exact ⟨h1, .inr ⟨k, cap, cur, rfl, hk, by rw [hb.block k hlt]; exact hh, hr⟩⟩

theorem sz52 : (Tryz.prog.info? 65).map (·.size) = some 2 := by kernel_rfl
theorem lies52 : liesAt Tryz.prog Tryz.prog.depth 67 (3 / Tryz.prog.cellsOf 67) 0 65 1 = true := by kernel_rfl

theorem At.shape {t : TypeId} {w : World} {g : Nat} {cs : List Value} (h : At t w g cs) : w.shape? g = some (t, cs.length) := by
  simp [World.shape?, show w.heap[g]? = _ from h]

set_option maxHeartbeats 1000000 in
set_option maxRecDepth 100000 in
theorem copyCheck_used (b : Nat) (w : World) (h0 : w.cell? ⟨b, 0, none⟩ = some (.pointer (some ⟨b, 0, none⟩))) :
    Calls Tryz.prog 125 #[.pointer (some ⟨b, 0, none⟩)] w fun e w' => e = .returned (.tuple #[]) ∧ w' = w := by
  obtain ⟨j, hj, _⟩ := Option.map_eq_some_iff.1 sz52
  go_enter Tryz.func125, Tryz.ntmps125
  go_wp2
  rw [Lib.run_neq_ptr_same w _ Tryz.underlying62 hj]
  go_wp2
  go_end0
  exact ⟨rfl, rfl⟩

set_option maxHeartbeats 1000000 in
set_option maxRecDepth 100000 in
theorem copyCheck_fresh (b : Nat) (v x : Value) (w : World) (hA : At 67 w b [.pointer none, v, x]) :
    Calls Tryz.prog 125 #[.pointer (some ⟨b, 0, none⟩)] w fun e w' => e = .returned (.tuple #[]) ∧ At 67 w' b [.pointer (some ⟨b, 0, none⟩), v, x] ∧ But b w w' ∧ w'.heap.size = w.heap.size := by
  obtain ⟨j, hj, hjs⟩ := Option.map_eq_some_iff.1 sz52
  have h0 : w.cell? ⟨b, 0, none⟩ = some (.pointer none) := by rw [hA.cell]; rfl
  have hsh := hA.shape
  have hfz := hA.frozen 0
  go_enter Tryz.func125, Tryz.ntmps125
  go_wp2
  rw [Lib.run_to_unsafe w ⟨b, 0, none⟩ Tryz.underlying62 Tryz.underlying163 hj (by rw [hjs]; decide) hsh (Nat.zero_lt_succ 2)]
  simp only [Result.andThen]
  rw [Oper.upon_value]
  go_wp2
  rw [run_callFunc_extern Tryz.func144 (by kernel_rfl) (by kernel_rfl) (by kernel_rfl) (e := Extern.AbiNoEscape.same) (by kernel_rfl)]
  rw [Lib.run_noEscape]
  simp only [Result.andThen]
  rw [Oper.upon_value]
  go_wp2
  rw [Lib.run_from_unsafe w ⟨b, 0, none⟩ Tryz.underlying163 Tryz.underlying62 hj hsh lies52]
  simp only [Result.andThen]
  rw [Oper.upon_value]
  go_wp2
  go_end0
  exact ⟨rfl, hA.set 0 _, (But.refl b w).setCell 0 _, by simp⟩

theorem owns_but {B g n : Nat} {w w' : World} {v : Value} {xs : List Value} (h : w.ownsRow B 5 1 v n xs) (hb : But g w w') (hn : v.ownBlock ≠ some g) : w'.ownsRow B 5 1 v n xs := by
  obtain ⟨h1, h2 | ⟨k, cap, cur, rfl, hk, hh, hr⟩⟩ := h
  · exact ⟨h1, .inl h2⟩
  · have hlt : k < w.heap.size := by
      rcases Nat.lt_or_ge k w.heap.size with hlt | hge
      · exact hlt
      · rw [Array.getElem?_eq_none hge] at hh; simp at hh
    exact ⟨h1, .inr ⟨k, cap, cur, rfl, hk, by rw [hb.block k hlt (by intro e; apply hn; simp [Value.ownBlock, e])]; exact hh, hr⟩⟩

theorem Wr.of_but {B g : Nat} {w w' : World} (h : But g w w') : Wr B g w w' := ⟨h.os, h.tape, h.output, h.size, fun k hk hn _ => h.block k hk hn⟩

theorem copyCheck_any (B g m : Nat) (bs : List UInt8) (w : World) (h : Raw B w g m bs) :
    Calls Tryz.prog 125 #[.pointer (some ⟨g, 0, none⟩)] w fun e w' => e = .returned (.tuple #[]) ∧ (∃ v, At 67 w' g [.pointer (some ⟨g, 0, none⟩), v, .int .i64 (m : Int)] ∧ w'.ownsRow B 5 1 v bs.length (Lib.byteCells bs) ∧ v.ownBlock ≠ some g) ∧ Wr B g w w' ∧ w'.heap.size = w.heap.size := by
  obtain ⟨hB, p, v, rfl | rfl, ha, hown, hne⟩ := h
  · refine (copyCheck_fresh g v _ w ha).mono ?_
    rintro e w' ⟨rfl, h1, h2, h3⟩
    exact ⟨rfl, ⟨v, h1, owns_but hown h2 hne, hne⟩, Wr.of_but h2, h3⟩
  · refine (copyCheck_used g w (by rw [ha.cell]; rfl)).mono ?_
    rintro e w' ⟨rfl, rfl⟩
    exact ⟨rfl, ⟨v, ha, hown, hne⟩, Wr.refl _ _ _, rfl⟩

set_option maxHeartbeats 1000000 in
set_option maxRecDepth 100000 in
theorem len_any (B g m : Nat) (bs : List UInt8) (w : World) (h : Raw B w g m bs) :
    Calls Tryz.prog 32 #[.pointer (some ⟨g, 0, none⟩)] w fun e w' => e = .returned (.int .i64 (bs.length : Int)) ∧ w' = w := by
  obtain ⟨hB, p, v, hp, ha, hown, hne⟩ := h
  obtain ⟨ao, cap, rfl⟩ : ∃ ao cap, v = .slice ao bs.length cap := by
    rcases hown.2 with ⟨hv, h0⟩ | ⟨k, cap, cur, hv, _⟩
    · exact ⟨none, 0, by rw [hv, h0]⟩
    · exact ⟨_, _, hv⟩
  have c1 : w.cell? ⟨g, 1, none⟩ = some (.slice ao bs.length cap) := by rw [ha.cell]; rfl
  clear hown ha hne
  go_enter Tryz.func32, Tryz.ntmps32
  go_wp2
  go_ret
  exact ⟨rfl, rfl⟩

set_option maxHeartbeats 2000000 in
set_option maxRecDepth 100000 in
theorem write_any (B g m : Nat) (bs : List UInt8) (s : ByteArray) (w : World) (h : Raw B w g m bs) (hlen : bs.length + s.size ≤ 140737488355328) (hBw : B ≤ w.heap.size) :
    Calls Tryz.prog 99 #[.pointer (some ⟨g, 0, none⟩), .string s] w fun e w' => e = .returned (.tuple #[.int .i64 s.size, .nilIface]) ∧ Raw B w' g m (bs ++ s.data.toList) ∧ Wr B g w w' := by
  obtain ⟨i0, hi, hz0, hz1, hz2⟩ := info_parts Tryz.info5
  have hB := h.1
  have hck := copyCheck_any B g m bs w h
  go_enter Tryz.func99, Tryz.ntmps99
  go_wp2_with fail
  refine hck.mono ?_
  rintro e w1 ⟨rfl, ⟨v, ha, hown, hne⟩, hwr, hsz⟩
  have c0 : w1.cell? ⟨g, 0, none⟩ = some (.pointer (some ⟨g, 0, none⟩)) := by rw [ha.cell]; rfl
  have c1 : w1.cell? ⟨g, 1, none⟩ = some v := by rw [ha.cell]; rfl
  go_wp2_with (at_builtin; refine Lib.wpList_append_own_string _ rfl _ _ 63 9 rfl B 5 i0 Tryz.underlying63 Tryz.underlying9 hi hz0 hz1 hz2 _ _ _ rfl hown s rfl ?c3 ?c4 ?c5 ?_)
  case c3 => unfold maxLen; omega
  case c4 => omega
  case c5 => omega
  intro v' w2 hown' hgrow _
  have hlt : g < w1.heap.size := ha.lt
  have hb2 : At 67 w2 g [.pointer (some ⟨g, 0, none⟩), v, .int .i64 (m : Int)] := by
    unfold At
    rw [hgrow.block g hlt (fun e => hne e.symm)]
    exact ha
  have d0 : w2.cell? ⟨g, 0, none⟩ = some (.pointer (some ⟨g, 0, none⟩)) := by rw [hb2.cell]; rfl
  have d1 : w2.cell? ⟨g, 1, none⟩ = some v := by rw [hb2.cell]; rfl
  have f1 : w2.frozen? ⟨g, 1, none⟩ = false := hb2.frozen 1
  have hne' := ownBlock_ne5 hown' hb2 (by decide)
  have hw2 : Wr B g w1 w2 := ⟨hgrow.os, hgrow.tape, hgrow.output, hgrow.size, fun k hk hn ht => hgrow.block k hk (by
    intro e
    obtain ⟨_, ⟨rfl, _⟩ | ⟨q, cap, cur, rfl, hq, hh, _⟩⟩ := hown
    · simp [Value.ownBlock] at e
    · simp only [Value.ownBlock] at e
      injection e with e
      subst e
      rcases ht with ht | ht
      · omega
      · exact ht _ _ hh)⟩
  have hfin : ∀ v'', v'' = v' → Raw B (w2.setCell ⟨g, 1, none⟩ v'') g m (bs ++ s.data.toList) ∧ Wr B g w (w2.setCell ⟨g, 1, none⟩ v'') := by
    rintro v'' rfl
    have hbut : But g w2 (w2.setCell ⟨g, 1, none⟩ v'') := (But.refl g w2).setCell 1 _
    refine ⟨⟨hB, .pointer (some ⟨g, 0, none⟩), v'', .inr rfl, hb2.set 1 v'', ?_, hne'⟩, (hwr.trans hw2).trans (Wr.of_but hbut)⟩
    have := owns_but hown' hbut hne'
    rw [Lib.byteCells_append, List.length_append, ← Lib.strCells_eq]
    simpa using this
  obtain ⟨ao, n', cap, rfl⟩ : ∃ ao n' cap, v' = .slice ao n' cap := by
    rcases hown'.2 with ⟨hv, _⟩ | ⟨q, cap, cur, hv, _⟩
    · exact ⟨_, _, _, hv⟩
    · exact ⟨_, _, _, hv⟩
  have HF : Hid (∀ v'', v'' = .slice ao n' cap → Raw B (w2.setCell ⟨g, 1, none⟩ v'') g m (bs ++ s.data.toList) ∧ Wr B g w (w2.setCell ⟨g, 1, none⟩ v'')) := hfin
  clear hfin hown hown' hgrow hb2 ha hwr hw2 hne hne'
  go_wp2
  go_ret2
  exact ⟨rfl, HF.out _ rfl⟩


theorem us_none (W : World) (q : Option Addr) : (Builtin.unsafeString_ #[108, 3] 9 #[.pointer q, .int .i64 0]).run Tryz.prog W = .ok (.string .empty) W :=
  Lib.run_unsafeString_none W _ _ _ q

set_option maxHeartbeats 2000000 in
set_option maxRecDepth 100000 in
theorem string_nil (B g : Nat) (p x : Value) (w : World) (ha : At 67 w g [p, .slice none 0 0, x]) :
    Calls Tryz.prog 33 #[.pointer (some ⟨g, 0, none⟩)] w fun e w' => e = .returned (.string ⟨#[]⟩) ∧ Below B w w' := by
  have hUS := us_none
  have c1 : w.drew.cell? ⟨g, 1, none⟩ = some (.slice none 0 0) := by rw [ha.drew.cell]; rfl
  have hSD : (Builtin.unsafeSliceData_ #[63] 108 #[.slice none 0 0]).run Tryz.prog w.drew = .ok (.pointer none) w.drew := Lib.run_unsafeSliceData_nil _ _ _ _ _
  clear ha
  go_enter Tryz.func33, Tryz.ntmps33
  go_wp2
  go_region
  all_goals (go_wp2; go_ret; exact ⟨rfl, Below.drew (Below.refl B w)⟩)

set_option maxHeartbeats 2000000 in
set_option maxRecDepth 100000 in
theorem string_room (B g k cap : Nat) (p x : Value) (w : World) (hc0 : cap ≠ 0) (ha : At 67 w g [p, .slice (some ⟨k, 0, none⟩) 0 cap, x]) :
    Calls Tryz.prog 33 #[.pointer (some ⟨g, 0, none⟩)] w fun e w' => e = .returned (.string ⟨#[]⟩) ∧ Below B w w' := by
  have hUS := us_none
  have c1 : w.drew.cell? ⟨g, 1, none⟩ = some (.slice (some ⟨k, 0, none⟩) 0 cap) := by rw [ha.drew.cell]; rfl
  have hSD : (Builtin.unsafeSliceData_ #[63] 108 #[.slice (some ⟨k, 0, none⟩) 0 cap]).run Tryz.prog w.drew = .ok (.pointer (some ⟨k, 0, none⟩)) w.drew := Lib.run_unsafeSliceData_row _ _ _ _ _ _ hc0
  clear ha hc0
  go_enter Tryz.func33, Tryz.ntmps33
  go_wp2
  go_region
  all_goals (go_wp2; go_ret; exact ⟨rfl, Below.drew (Below.refl B w)⟩)

set_option maxHeartbeats 2000000 in
set_option maxRecDepth 100000 in
theorem string_noroom (B g k : Nat) (p x : Value) (cur : Array Value) (w : World) (hBw : B ≤ w.heap.size) (ha : At 67 w g [p, .slice (some ⟨k, 0, none⟩) 0 0, x]) (hg : w.heap[k]? = some (.cells cur 5 (0, 0))) :
    Calls Tryz.prog 33 #[.pointer (some ⟨g, 0, none⟩)] w fun e w' => e = .returned (.string ⟨#[]⟩) ∧ Below B w w' := by
  have hUS := us_none
  have hlt : g < w.heap.size := ha.lt
  have c1 : w.drew.cell? ⟨g, 1, none⟩ = some (.slice (some ⟨k, 0, none⟩) 0 0) := by rw [ha.drew.cell]; rfl
  have hSD : (Builtin.unsafeSliceData_ #[63] 108 #[.slice (some ⟨k, 0, none⟩) 0 0]).run Tryz.prog w.drew = .ok (.pointer (some ⟨w.drew.heap.size, 0, none⟩)) (w.drew.alloc (.view ⟨k, 0, none⟩ 5)) :=
    Lib.run_unsafeSliceData_zero w.drew _ _ 5 Tryz.underlying108 ⟨k, 0, none⟩ 0 (5, cur.size) (by have hg' : w.drew.heap[k]? = some (.cells cur 5 (0, 0)) := hg; simp [World.shape?, hg'])
  have c2 : (w.drew.alloc (.view ⟨k, 0, none⟩ 5)).cell? ⟨g, 1, none⟩ = some (.slice (some ⟨k, 0, none⟩) 0 0) := by
    have : (w.drew.alloc (.view ⟨k, 0, none⟩ 5)).heap[g]? = _ := (Lib.alloc_old w.drew _ g hlt).trans ha
    rw [Lib.cell_of_heap this]; rfl
  have c3 : (w.alloc (.view ⟨k, 0, none⟩ 5)).drew.cell? ⟨g, 1, none⟩ = some (.slice (some ⟨k, 0, none⟩) 0 0) := c2
  have c0 : w.cell? ⟨g, 1, none⟩ = some (.slice (some ⟨k, 0, none⟩) 0 0) := c1
  clear ha hg hlt
  go_enter Tryz.func33, Tryz.ntmps33
  go_wp2
  go_region
  all_goals (go_wp2; go_ret; exact ⟨rfl, (Below.drew (Below.refl B w)).alloc hBw _⟩)

set_option maxHeartbeats 1000000 in
set_option maxRecDepth 100000 in
theorem string_some (B g m : Nat) (l : List UInt8) (w : World) (h : Raw B w g m l) (h0 : l ≠ []) :
    Calls Tryz.prog 33 #[.pointer (some ⟨g, 0, none⟩)] w fun e w' => e = .returned (.string ⟨l.toArray⟩) ∧ Below B w w' := by
  obtain ⟨hB, p, v, _, ha, hown, hne⟩ := h
  have hl0 : l.length ≠ 0 := by simpa using h0
  obtain ⟨k, cap, cur, rfl, hbg, hg, hnc, hcm, hcs, htake⟩ : ∃ k cap cur, v = .slice (some ⟨k, 0, none⟩) l.length cap ∧ B ≤ k ∧ w.heap[k]? = some (.cells cur 5 (0, 0)) ∧ l.length ≤ cap ∧ cap ≤ maxLen ∧ cur.size = cap * 1 ∧ cur.toList.take (l.length * 1) = Lib.byteCells l := by
    rcases hown.2 with ⟨_, hz⟩ | ⟨k, cap, cur, hv, r⟩
    · exact absurd hz hl0
    · exact ⟨k, cap, cur, hv, r⟩
  have c1 : w.drew.cell? ⟨g, 1, none⟩ = some (.slice (some ⟨k, 0, none⟩) l.length cap) := by rw [ha.drew.cell]; rfl
  have hSD : (Builtin.unsafeSliceData_ #[63] 108 #[.slice (some ⟨k, 0, none⟩) l.length cap]).run Tryz.prog w.drew = .ok (.pointer (some ⟨k, 0, none⟩)) w.drew :=
    Lib.run_unsafeSliceData_row _ _ _ _ _ _ (by omega)
  have hUS : (Builtin.unsafeString_ #[108, 3] 9 #[.pointer (some ⟨k, 0, none⟩), .int .i64 l.length]).run Tryz.prog w.drew = .ok (.string ⟨l.toArray⟩) (w.drew.freeze ⟨k, 0, none⟩ l.length) := by
    refine Lib.run_unsafeString_row w.drew 108 3 9 5 Tryz.underlying108 (by kernel_rfl) k cur.size (by have hg' : w.drew.heap[k]? = some (.cells cur 5 (0, 0)) := hg; simp [World.shape?, hg']) l h0 (by omega) (by unfold maxLen at hcm; omega) ?_
    intro j x hx
    exact hown.cells (g := k) rfl j (.int .u8 x.toNat) (by simp [Lib.byteCells, hx])
  clear hown ha hg htake hcs
  go_enter Tryz.func33, Tryz.ntmps33
  go_wp2
  go_region
  all_goals (go_wp2; go_ret; exact ⟨rfl, Lib.below_freeze (Below.drew (Below.refl B w)) (p := ⟨k, 0, none⟩) hbg _⟩)

theorem string_any (B g m : Nat) (l : List UInt8) (w : World) (h : Raw B w g m l) (hBw : B ≤ w.heap.size) :
    Calls Tryz.prog 33 #[.pointer (some ⟨g, 0, none⟩)] w fun e w' => e = .returned (.string ⟨l.toArray⟩) ∧ Below B w w' := by
  cases l with
  | cons x r => exact string_some B g m (x :: r) w h (by simp)
  | nil =>
    obtain ⟨hB, p, v, _, ha, hown, hne⟩ := h
    rcases hown.2 with ⟨rfl, _⟩ | ⟨k, cap, cur, rfl, hbg, hg, _, _, _, _⟩
    · exact string_nil B g p _ w ha
    · by_cases hc0 : cap = 0
      · subst hc0
        exact string_noroom B g k p _ cur w hBw ha hg
      · exact string_room B g k cap p _ w hc0 ha

end Go.Proofs.YtcmahiphfpgadaaGreatDoor

/- The text's writing of pieces. -/
namespace Go.Proofs.YtcmahiphfpgadaaGreatDoor
open Go.RowKit
set_option linter.unusedVariables false

/-- The text holds F, or is longer than the most, as F is. -/
def Txt (B : Nat) (w : World) (g m : Nat) (F : List UInt8) : Prop := ∃ bs, (bs = F ∨ (m < bs.length ∧ m < F.length)) ∧ bs.length ≤ F.length ∧ Raw B w g m bs

theorem Txt.lt {B g m : Nat} {w : World} {F : List UInt8} (h : Txt B w g m F) : g < w.heap.size := by
  obtain ⟨_, _, _, h⟩ := h
  exact h.lt
theorem Txt.base {B g m : Nat} {w : World} {F : List UInt8} (h : Txt B w g m F) : B ≤ g := by
  obtain ⟨_, _, _, h⟩ := h
  exact h.1
theorem Txt.below {B g m : Nat} {w w' : World} {F : List UInt8} (h : Txt B w g m F) (hb : Below w.heap.size w w') : Txt B w' g m F := by
  obtain ⟨bs, h1, h2, h3⟩ := h
  exact ⟨bs, h1, h2, h3.below hb⟩

/-- Pieces one behind the other. -/
def cat (ps : List ByteArray) : List UInt8 := (ps.map (·.data.toList)).flatten

theorem cat_cons (s : ByteArray) (ps : List ByteArray) : cat (s :: ps) = s.data.toList ++ cat ps := rfl

theorem i9s : (Tryz.prog.info? 9).map (fun i => (i.zero, i.size, i.bytes)) = some (some (.string ⟨#[]⟩), 1, 16) := by kernel_rfl

set_option maxHeartbeats 1600000 in
set_option maxRecDepth 100000 in
theorem put_any (B g m k : Nat) (ps : List ByteArray) (F : List UInt8) (w : World) (hm : m ≤ 9223372036854775807) (h : Txt B w g m F) (hA : At 9 w k (ps.map .string)) (hlen : (F ++ cat ps).length ≤ 70368744177664) (hps : ps.length ≤ 1000) :
    Calls Tryz.prog 72 #[.pointer (some ⟨g, 0, none⟩), .slice (some ⟨k, 0, none⟩) ps.length ps.length] w fun e w' => e = .returned (.tuple #[]) ∧ Txt B w' g m (F ++ cat ps) ∧ Wr B g w w' := by
  have hBg := h.base
  have hgw := h.lt
  have hkg : k ≠ g := by
    rintro rfl
    obtain ⟨bs, _, _, _, p, v, _, ha, _⟩ := h
    have h1 : w.heap[k]? = _ := hA
    have h2 : w.heap[k]? = _ := ha
    rw [h1] at h2
    injection h2 with h2
    injection h2 with _ h3
    cases h3
  obtain ⟨n, hn⟩ : ∃ n, Hid (n = ps.length) := ⟨_, (rfl : ps.length = _)⟩
  rw [← hn.out] at hps ⊢
  have HA : Hid (At 9 w k (ps.map .string)) := hA
  have HT : Hid (Txt B w g m F) := h
  have HL : Hid ((F ++ cat ps).length ≤ 70368744177664) := hlen
  clear hA h hlen
  go_enter Tryz.func72, Tryz.ntmps72
  go_wp2_with fail
  go_loopw [8] (fun j wr => ∃ i : Nat, j = .int .i64 (i : Int) ∧ i ≤ n ∧ Hid (Txt B wr g m (F ++ cat (ps.take i)) ∧ Wr B g w wr)) (fun j _ => n - (intOf j).toNat)
  case atStart => exact ⟨0, rfl, by omega, by simpa [cat] using HT.out, Wr.refl _ _ _⟩
  case round =>
    obtain ⟨i, rfl, hi, hR⟩ := hrel
    by_cases hc : i < n
    · obtain ⟨s, hs⟩ : ∃ s, ps[i]? = some s := ⟨ps[i]'(by rw [← hn.out]; exact hc), by rw [List.getElem?_eq_getElem]⟩
      obtain ⟨hT, hW⟩ := hR.out
      have hAr : At 9 wr k (ps.map .string) := hW.at HA.out hkg (by decide)
      have ci : wr.cell? ⟨k, i, none⟩ = some (.string s) := by rw [hAr.cell, List.getElem?_map, hs]; rfl
      have htake : ps.take (i + 1) = ps.take i ++ [s] := by rw [List.take_add_one, hs]; rfl
      have hcat : F ++ cat (ps.take (i + 1)) = (F ++ cat (ps.take i)) ++ s.data.toList := by rw [htake]; simp [cat]
      have hle : (F ++ cat (ps.take (i + 1))).length ≤ (F ++ cat ps).length := by
        have e : cat ps = cat (ps.take (i + 1)) ++ cat (ps.drop (i + 1)) := by
          unfold cat
          rw [← List.flatten_append, ← List.map_append, List.take_append_drop]
        rw [e]
        simp only [List.length_append]
        omega
      have hle2 := HL.out
      obtain ⟨bs, hbs, hbl, hraw⟩ := hT
      have hBw : B ≤ wr.heap.size := by have := hW.size; omega
      have hsl : (F ++ cat (ps.take i)).length + s.size ≤ 70368744177664 := by
        have e : s.size = s.data.toList.length := Array.length_toList.symm
        rw [hcat, List.length_append] at hle
        omega
      have h63 : bs.length ≤ 9223372036854775807 := by omega
      have cm : wr.cell? ⟨g, 2, none⟩ = some (.int .i64 (m : Int)) := by
        obtain ⟨_, p, v, _, ha, _⟩ := hraw
        rw [ha.cell]; rfl
      have hlen : ∀ q, Calls Tryz.prog 32 #[.pointer (some ⟨g, 0, none⟩)] (wr.drewN q) fun e w' => e = .returned (.int .i64 (bs.length : Int)) ∧ w' = wr.drewN q := fun q => len_any B g m bs _ hraw
      by_cases hlm : bs.length ≤ m
      · have hbF : bs = F ++ cat (ps.take i) := by
          rcases hbs with h | ⟨h, _⟩
          · exact h
          · omega
        have hcm : (bs.length : Int) ≤ (m : Int) := by omega
        have hwr : ∀ q, Calls Tryz.prog 99 #[.pointer (some ⟨g, 0, none⟩), .string s] (wr.drewN q) fun e w' => e = .returned (.tuple #[.int .i64 s.size, .nilIface]) ∧ Raw B w' g m (bs ++ s.data.toList) ∧ Wr B g (wr.drewN q) w' := fun q => write_any B g m bs s _ hraw (by omega) hBw
        have HX : Hid ((F ++ cat (ps.take (i + 1)) = bs ++ s.data.toList) ∧ Wr B g w wr) := ⟨by rw [hcat, hbF], hW⟩
        clear hbs hbl hraw hW hAr htake hcat hle hle2 hR hsl hbF
        go_wp2_with fail
        go_quiet (first | (go_at_call 32; exact Calls.quiet_of_same (hlen _)))
        go_wp2_with fail
        refine (hwr _).mono ?_
        rintro e w2 ⟨rfl, hr2, hw2⟩
        have HY : Hid (Txt B w2 g m (F ++ cat (ps.take (i + 1))) ∧ Wr B g w w2) := by
          obtain ⟨h1, h2⟩ := HX.out
          rw [h1]
          exact ⟨⟨_, .inl rfl, Nat.le_refl _, hr2⟩, h2.trans ((Wr.mk rfl rfl rfl (Nat.le_refl _) fun _ _ _ _ => rfl : Wr B g wr (wr.drewN nq)).trans hw2)⟩
        clear HX hr2 hw2 hwr hlen
        go_wp2
        go_roundw
        case rel => exact ⟨i + 1, by go_num, by omega, HY⟩
        case measure => simp [intOf]; omega
      · have hcm : ¬ (bs.length : Int) ≤ (m : Int) := by omega
        have HY : ∀ q, Hid (Txt B (wr.drewN q) g m (F ++ cat (ps.take (i + 1))) ∧ Wr B g w (wr.drewN q)) := fun q => ⟨⟨bs, .inr ⟨by omega, by rw [hcat, List.length_append]; rcases hbs with h | ⟨_, h⟩ <;> omega⟩, by rw [hcat, List.length_append]; omega, hraw⟩, hW.trans (Wr.mk rfl rfl rfl (Nat.le_refl _) fun _ _ _ _ => rfl : Wr B g wr (wr.drewN q))⟩
        clear hbs hbl hraw hW hAr htake hcat hle hle2 hR hsl
        go_wp2_with fail
        go_quiet (first | (go_at_call 32; exact Calls.quiet_of_same (hlen _)))
        go_wp2_with fail
        go_roundw
        case rel => exact ⟨i + 1, by go_num, by omega, HY _⟩
        case measure => simp [intOf]; omega
    · have hin : i = n := by omega
      have HY : Hid (Txt B wr g m (F ++ cat ps) ∧ Wr B g w wr) := by
        have := hR.out
        rw [hin, hn.out, List.take_length] at this
        exact this
      clear hR hin
      go_wp2
      go_end0
      exact ⟨rfl, HY.out⟩

end Go.Proofs.YtcmahiphfpgadaaGreatDoor
