/- Joined texts of the proof. -/
import Derived.Test.YtjgggmjjikopeaaGreatDoorJ3
import Derived.Lib.Builder
import Derived.Lib.AppendStr
import Derived.Lib.UnsafeStr
import Derived.Lib.Walk
import Derived.Laws.Externs
import Derived.Great.BuildSlice
import Derived.WalkMore

/- Prepared for layer 5, no program is named: the text of an expression tells it apart from any other. -/
namespace Go.Proofs.YtjgggmjjikopeaaGreatDoor

/-- An expression, as data. -/
inductive Ex where
  | mk (op t b : Nat) (nm : List UInt8) (kids : List Ex)

/-- The signs of two operands. -/
def sgT : Nat → List UInt8
  | 3 => [124, 124]
  | 4 => [38, 38]
  | 5 => [61, 61]
  | 6 => [33, 61]
  | 7 => [60]
  | 8 => [60, 61]
  | 9 => [62]
  | 10 => [62, 61]
  | 11 => [43]
  | 12 => [45]
  | 13 => [42]
  | 14 => [47]
  | 15 => [37]
  | _ => []

section
variable (lit : Nat → Nat → Option (List UInt8)) (isName : List UInt8 → Bool)

variable {lit isName}

end
end Go.Proofs.YtjgggmjjikopeaaGreatDoor

/- The text that is put together: a struct with a builder in it, and what writing to it leaves as it was. -/
namespace Go.Proofs.YtjgggmjjikopeaaGreatDoor
open Go.RowKit
set_option linter.unusedVariables false

/-- A writing to the text at block g, made from block B on: all other blocks are as they were, but rows of bytes from B on. -/
structure Wr (B g : Nat) (w w' : World) : Prop where
  os : w'.os = w.os
  tape : w'.tape = w.tape
  output : w'.output = w.output
  size : w.heap.size ≤ w'.heap.size
  block : ∀ k, k < w.heap.size → k ≠ g → (k < B ∨ ∀ cs fr, w.heap[k]? ≠ some (.cells cs 5 fr)) → w'.heap[k]? = w.heap[k]?

theorem Wr.refl (B g : Nat) (w : World) : Wr B g w w := ⟨rfl, rfl, rfl, Nat.le_refl _, fun _ _ _ _ => rfl⟩
theorem Wr.trans {B g : Nat} {a b c : World} (h : Wr B g a b) (k : Wr B g b c) : Wr B g a c :=
  ⟨k.os.trans h.os, k.tape.trans h.tape, k.output.trans h.output, Nat.le_trans h.size k.size, fun i hi hn ht => by
    have e := h.block i hi hn ht
    rw [k.block i (Nat.lt_of_lt_of_le hi h.size) hn ?_, e]
    rcases ht with ht | ht
    · exact .inl ht
    · exact .inr fun cs fr hx => ht cs fr (by rw [← e]; exact hx)⟩
theorem Wr.of_below {B g : Nat} {w w' : World} (h : Below w.heap.size w w') : Wr B g w w' := ⟨h.os, h.tape, h.output, h.size, fun k hk _ _ => h.block k hk⟩
theorem Wr.at {B g t k : Nat} {w w' : World} {cs : List Value} (h : Wr B g w w') (ha : At t w k cs) (hn : k ≠ g) (ht : t ≠ 5) : At t w' k cs := by
  have hx : w.heap[k]? = _ := ha
  unfold At
  rw [h.block k ha.lt hn (.inr fun cs fr he => by rw [hx] at he; injection he with he; injection he with _ h2; exact ht h2)]
  exact ha
theorem Wr.below {B g : Nat} {w w' : World} (h : Wr B g w w') (hB : B ≤ g) (hw : B ≤ w.heap.size) : Below B w w' :=
  ⟨h.os, h.tape, h.output, h.size, fun k hk => h.block k (by omega) (by omega) (.inl hk)⟩

/-- The text's block: the builder's own address, its buffer, the most. -/
def Raw (B : Nat) (w : World) (g : Nat) (m : Nat) (bs : List UInt8) : Prop :=
  B ≤ g ∧ ∃ p v, (p = .pointer none ∨ p = .pointer (some ⟨g, 0, none⟩)) ∧ At 88 w g [p, v, .int .i64 (m : Int)] ∧ w.ownsRow B 5 1 v bs.length (Lib.byteCells bs) ∧ v.ownBlock ≠ some g

theorem ownBlock_ne5 {B g t n : Nat} {w : World} {v : Value} {xs cs : List Value} (h : w.ownsRow B 5 1 v n xs) (hg : At t w g cs) (ht : t ≠ 5) : v.ownBlock ≠ some g := by
  obtain ⟨_, ⟨rfl, _⟩ | ⟨k, cap, cur, rfl, _, hk, _⟩⟩ := h
  · simp [Value.ownBlock]
  · simp only [Value.ownBlock]
    intro e
    injection e with e
    subst e
    have hx : w.heap[k]? = _ := hg
    rw [hk] at hx
    injection hx with hx
    injection hx with _ h2
    exact ht h2.symm

theorem Raw.new {w : World} {g m B : Nat} (hB : B ≤ g) (h : At 88 w g [.pointer none, .slice none 0 0, .int .i64 (m : Int)]) : Raw B w g m [] :=
  ⟨hB, .pointer none, .slice none 0 0, .inl rfl, h, ⟨rfl, .inl ⟨rfl, rfl⟩⟩, by simp [Value.ownBlock]⟩

theorem Raw.lt {B g m : Nat} {w : World} {bs : List UInt8} (h : Raw B w g m bs) : g < w.heap.size := by
  obtain ⟨_, p, v, _, ha, _⟩ := h
  exact ha.lt

theorem Raw.below {B g m : Nat} {w w' : World} {bs : List UInt8} (h : Raw B w g m bs) (hb : Below w.heap.size w w') : Raw B w' g m bs := by
  obtain ⟨hB, p, v, hp, ha, hown, hne⟩ := h
  refine ⟨hB, p, v, hp, ha.below hb, ?_, hne⟩
  obtain ⟨h1, h2 | ⟨k, cap, cur, rfl, hk, hh, hr⟩⟩ := hown
  · exact ⟨h1, .inl h2⟩
  · have hlt : k < w.heap.size := by
      rcases Nat.lt_or_ge k w.heap.size with hlt | hge
      · exact hlt
      · rw [Array.getElem?_eq_none hge] at hh; simp at hh
    exact ⟨h1, .inr ⟨k, cap, cur, rfl, hk, by rw [hb.block k hlt]; exact hh, hr⟩⟩

theorem sz52 : (Tryz.prog.info? 86).map (·.size) = some 2 := by kernel_rfl
theorem lies52 : liesAt Tryz.prog Tryz.prog.depth 88 (3 / Tryz.prog.cellsOf 88) 0 86 1 = true := by kernel_rfl

theorem At.shape {t : TypeId} {w : World} {g : Nat} {cs : List Value} (h : At t w g cs) : w.shape? g = some (t, cs.length) := by
  simp [World.shape?, show w.heap[g]? = _ from h]

set_option maxHeartbeats 1000000 in
set_option maxRecDepth 100000 in
theorem copyCheck_used (b : Nat) (w : World) (h0 : w.cell? ⟨b, 0, none⟩ = some (.pointer (some ⟨b, 0, none⟩))) :
    Calls Tryz.prog 152 #[.pointer (some ⟨b, 0, none⟩)] w fun e w' => e = .returned (.tuple #[]) ∧ w' = w := by
  obtain ⟨j, hj, _⟩ := Option.map_eq_some_iff.1 sz52
  go_enter Tryz.func152, Tryz.ntmps152
  go_wp2
  rw [Lib.run_neq_ptr_same w _ Tryz.underlying83 hj]
  go_wp2
  go_end0
  exact ⟨rfl, rfl⟩

set_option maxHeartbeats 1000000 in
set_option maxRecDepth 100000 in
theorem copyCheck_fresh (b : Nat) (v x : Value) (w : World) (hA : At 88 w b [.pointer none, v, x]) :
    Calls Tryz.prog 152 #[.pointer (some ⟨b, 0, none⟩)] w fun e w' => e = .returned (.tuple #[]) ∧ At 88 w' b [.pointer (some ⟨b, 0, none⟩), v, x] ∧ But b w w' ∧ w'.heap.size = w.heap.size := by
  obtain ⟨j, hj, hjs⟩ := Option.map_eq_some_iff.1 sz52
  have h0 : w.cell? ⟨b, 0, none⟩ = some (.pointer none) := by rw [hA.cell]; rfl
  have hsh := hA.shape
  have hfz := hA.frozen 0
  go_enter Tryz.func152, Tryz.ntmps152
  go_wp2
  rw [Lib.run_to_unsafe w ⟨b, 0, none⟩ Tryz.underlying83 Tryz.underlying194 hj (by rw [hjs]; decide) hsh (Nat.zero_lt_succ 2)]
  simp only [Result.andThen]
  rw [Oper.upon_value]
  go_wp2
  rw [run_callFunc_extern Tryz.func180 (by kernel_rfl) (by kernel_rfl) (by kernel_rfl) (e := Extern.AbiNoEscape.same) (by kernel_rfl)]
  rw [Lib.run_noEscape]
  simp only [Result.andThen]
  rw [Oper.upon_value]
  go_wp2
  rw [Lib.run_from_unsafe w ⟨b, 0, none⟩ Tryz.underlying194 Tryz.underlying83 hj hsh lies52]
  simp only [Result.andThen]
  rw [Oper.upon_value]
  go_wp2
  go_end0
  exact ⟨rfl, hA.set 0 _, (But.refl b w).setCell 0 _, by simp⟩

theorem owns_but {B g n : Nat} {w w' : World} {v : Value} {xs : List Value} (h : w.ownsRow B 5 1 v n xs) (hb : But g w w') (hn : v.ownBlock ≠ some g) : w'.ownsRow B 5 1 v n xs := by
  obtain ⟨h1, h2 | ⟨k, cap, cur, rfl, hk, hh, hr⟩⟩ := h
  · exact ⟨h1, .inl h2⟩
  · have hlt : k < w.heap.size := by
      rcases Nat.lt_or_ge k w.heap.size with hlt | hge
      · exact hlt
      · rw [Array.getElem?_eq_none hge] at hh; simp at hh
    exact ⟨h1, .inr ⟨k, cap, cur, rfl, hk, by rw [hb.block k hlt (by intro e; apply hn; simp [Value.ownBlock, e])]; exact hh, hr⟩⟩

theorem Wr.of_but {B g : Nat} {w w' : World} (h : But g w w') : Wr B g w w' := ⟨h.os, h.tape, h.output, h.size, fun k hk hn _ => h.block k hk hn⟩

theorem copyCheck_any (B g m : Nat) (bs : List UInt8) (w : World) (h : Raw B w g m bs) :
    Calls Tryz.prog 152 #[.pointer (some ⟨g, 0, none⟩)] w fun e w' => e = .returned (.tuple #[]) ∧ (∃ v, At 88 w' g [.pointer (some ⟨g, 0, none⟩), v, .int .i64 (m : Int)] ∧ w'.ownsRow B 5 1 v bs.length (Lib.byteCells bs) ∧ v.ownBlock ≠ some g) ∧ Wr B g w w' ∧ w'.heap.size = w.heap.size := by
  obtain ⟨hB, p, v, rfl | rfl, ha, hown, hne⟩ := h
  · refine (copyCheck_fresh g v _ w ha).mono ?_
    rintro e w' ⟨rfl, h1, h2, h3⟩
    exact ⟨rfl, ⟨v, h1, owns_but hown h2 hne, hne⟩, Wr.of_but h2, h3⟩
  · refine (copyCheck_used g w (by rw [ha.cell]; rfl)).mono ?_
    rintro e w' ⟨rfl, rfl⟩
    exact ⟨rfl, ⟨v, ha, hown, hne⟩, Wr.refl _ _ _, rfl⟩

set_option maxHeartbeats 1000000 in
set_option maxRecDepth 100000 in
theorem len_any (B g m : Nat) (bs : List UInt8) (w : World) (h : Raw B w g m bs) :
    Calls Tryz.prog 45 #[.pointer (some ⟨g, 0, none⟩)] w fun e w' => e = .returned (.int .i64 (bs.length : Int)) ∧ w' = w := by
  obtain ⟨hB, p, v, hp, ha, hown, hne⟩ := h
  obtain ⟨ao, cap, rfl⟩ : ∃ ao cap, v = .slice ao bs.length cap := by
    rcases hown.2 with ⟨hv, h0⟩ | ⟨k, cap, cur, hv, _⟩
    · exact ⟨none, 0, by rw [hv, h0]⟩
    · exact ⟨_, _, hv⟩
  have c1 : w.cell? ⟨g, 1, none⟩ = some (.slice ao bs.length cap) := by rw [ha.cell]; rfl
  clear hown ha hne
  go_enter Tryz.func45, Tryz.ntmps45
  go_wp2
  go_ret
  exact ⟨rfl, rfl⟩

set_option maxHeartbeats 2000000 in
set_option maxRecDepth 100000 in
theorem write_any (B g m : Nat) (bs : List UInt8) (s : ByteArray) (w : World) (h : Raw B w g m bs) (hlen : bs.length + s.size ≤ 140737488355328) (hBw : B ≤ w.heap.size) :
    Calls Tryz.prog 116 #[.pointer (some ⟨g, 0, none⟩), .string s] w fun e w' => e = .returned (.tuple #[.int .i64 s.size, .nilIface]) ∧ Raw B w' g m (bs ++ s.data.toList) ∧ Wr B g w w' := by
  obtain ⟨i0, hi, hz0, hz1, hz2⟩ := info_parts Tryz.info5
  have hB := h.1
  have hck := copyCheck_any B g m bs w h
  go_enter Tryz.func116, Tryz.ntmps116
  go_wp2_with fail
  refine hck.mono ?_
  rintro e w1 ⟨rfl, ⟨v, ha, hown, hne⟩, hwr, hsz⟩
  have c0 : w1.cell? ⟨g, 0, none⟩ = some (.pointer (some ⟨g, 0, none⟩)) := by rw [ha.cell]; rfl
  have c1 : w1.cell? ⟨g, 1, none⟩ = some v := by rw [ha.cell]; rfl
  go_wp2_with (at_builtin; refine Lib.wpList_append_own_string _ rfl _ _ 84 9 rfl B 5 i0 Tryz.underlying84 Tryz.underlying9 hi hz0 hz1 hz2 _ _ _ rfl hown s rfl ?c3 ?c4 ?c5 ?_)
  case c3 => unfold maxLen; omega
  case c4 => omega
  case c5 => omega
  intro v' w2 hown' hgrow _
  have hlt : g < w1.heap.size := ha.lt
  have hb2 : At 88 w2 g [.pointer (some ⟨g, 0, none⟩), v, .int .i64 (m : Int)] := by
    unfold At
    rw [hgrow.block g hlt (fun e => hne e.symm)]
    exact ha
  have d0 : w2.cell? ⟨g, 0, none⟩ = some (.pointer (some ⟨g, 0, none⟩)) := by rw [hb2.cell]; rfl
  have d1 : w2.cell? ⟨g, 1, none⟩ = some v := by rw [hb2.cell]; rfl
  have f1 : w2.frozen? ⟨g, 1, none⟩ = false := hb2.frozen 1
  have hne' := ownBlock_ne5 hown' hb2 (by decide)
  have hw2 : Wr B g w1 w2 := ⟨hgrow.os, hgrow.tape, hgrow.output, hgrow.size, fun k hk hn ht => hgrow.block k hk (by
    intro e
    obtain ⟨_, ⟨rfl, _⟩ | ⟨q, cap, cur, rfl, hq, hh, _⟩⟩ := hown
    · simp [Value.ownBlock] at e
    · simp only [Value.ownBlock] at e
      injection e with e
      subst e
      rcases ht with ht | ht
      · omega
      · exact ht _ _ hh)⟩
  have hfin : ∀ v'', v'' = v' → Raw B (w2.setCell ⟨g, 1, none⟩ v'') g m (bs ++ s.data.toList) ∧ Wr B g w (w2.setCell ⟨g, 1, none⟩ v'') := by
    rintro v'' rfl
    have hbut : But g w2 (w2.setCell ⟨g, 1, none⟩ v'') := (But.refl g w2).setCell 1 _
    refine ⟨⟨hB, .pointer (some ⟨g, 0, none⟩), v'', .inr rfl, hb2.set 1 v'', ?_, hne'⟩, (hwr.trans hw2).trans (Wr.of_but hbut)⟩
    have := owns_but hown' hbut hne'
    rw [Lib.byteCells_append, List.length_append, ← Lib.strCells_eq]
    simpa using this
  obtain ⟨ao, n', cap, rfl⟩ : ∃ ao n' cap, v' = .slice ao n' cap := by
    rcases hown'.2 with ⟨hv, _⟩ | ⟨q, cap, cur, hv, _⟩
    · exact ⟨_, _, _, hv⟩
    · exact ⟨_, _, _, hv⟩
  have HF : Hid (∀ v'', v'' = .slice ao n' cap → Raw B (w2.setCell ⟨g, 1, none⟩ v'') g m (bs ++ s.data.toList) ∧ Wr B g w (w2.setCell ⟨g, 1, none⟩ v'')) := hfin
  clear hfin hown hown' hgrow hb2 ha hwr hw2 hne hne'
  go_wp2
  go_ret2
  exact ⟨rfl, HF.out _ rfl⟩

theorem us_none (W : World) (q : Option Addr) : (Builtin.unsafeString_ #[119, 3] 9 #[.pointer q, .int .i64 0]).run Tryz.prog W = .ok (.string .empty) W :=
  Lib.run_unsafeString_none W _ _ _ q

set_option maxHeartbeats 2000000 in
set_option maxRecDepth 100000 in
theorem string_nil (B g : Nat) (p x : Value) (w : World) (ha : At 88 w g [p, .slice none 0 0, x]) :
    Calls Tryz.prog 46 #[.pointer (some ⟨g, 0, none⟩)] w fun e w' => e = .returned (.string ⟨#[]⟩) ∧ Below B w w' := by
  have hUS := us_none
  have c1 : w.drew.cell? ⟨g, 1, none⟩ = some (.slice none 0 0) := by rw [ha.drew.cell]; rfl
  have hSD : (Builtin.unsafeSliceData_ #[84] 119 #[.slice none 0 0]).run Tryz.prog w.drew = .ok (.pointer none) w.drew := Lib.run_unsafeSliceData_nil _ _ _ _ _
  clear ha
  go_enter Tryz.func46, Tryz.ntmps46
  go_wp2
  go_region
  all_goals (go_wp2; go_ret; exact ⟨rfl, Below.drew (Below.refl B w)⟩)

set_option maxHeartbeats 2000000 in
set_option maxRecDepth 100000 in
theorem string_room (B g k cap : Nat) (p x : Value) (w : World) (hc0 : cap ≠ 0) (ha : At 88 w g [p, .slice (some ⟨k, 0, none⟩) 0 cap, x]) :
    Calls Tryz.prog 46 #[.pointer (some ⟨g, 0, none⟩)] w fun e w' => e = .returned (.string ⟨#[]⟩) ∧ Below B w w' := by
  have hUS := us_none
  have c1 : w.drew.cell? ⟨g, 1, none⟩ = some (.slice (some ⟨k, 0, none⟩) 0 cap) := by rw [ha.drew.cell]; rfl
  have hSD : (Builtin.unsafeSliceData_ #[84] 119 #[.slice (some ⟨k, 0, none⟩) 0 cap]).run Tryz.prog w.drew = .ok (.pointer (some ⟨k, 0, none⟩)) w.drew := Lib.run_unsafeSliceData_row _ _ _ _ _ _ hc0
  clear ha hc0
  go_enter Tryz.func46, Tryz.ntmps46
  go_wp2
  go_region
  all_goals (go_wp2; go_ret; exact ⟨rfl, Below.drew (Below.refl B w)⟩)

set_option maxHeartbeats 2000000 in
set_option maxRecDepth 100000 in
theorem string_noroom (B g k : Nat) (p x : Value) (cur : Array Value) (w : World) (hBw : B ≤ w.heap.size) (ha : At 88 w g [p, .slice (some ⟨k, 0, none⟩) 0 0, x]) (hg : w.heap[k]? = some (.cells cur 5 (0, 0))) :
    Calls Tryz.prog 46 #[.pointer (some ⟨g, 0, none⟩)] w fun e w' => e = .returned (.string ⟨#[]⟩) ∧ Below B w w' := by
  have hUS := us_none
  have hlt : g < w.heap.size := ha.lt
  have c1 : w.drew.cell? ⟨g, 1, none⟩ = some (.slice (some ⟨k, 0, none⟩) 0 0) := by rw [ha.drew.cell]; rfl
  have hSD : (Builtin.unsafeSliceData_ #[84] 119 #[.slice (some ⟨k, 0, none⟩) 0 0]).run Tryz.prog w.drew = .ok (.pointer (some ⟨w.drew.heap.size, 0, none⟩)) (w.drew.alloc (.view ⟨k, 0, none⟩ 5)) :=
    Lib.run_unsafeSliceData_zero w.drew _ _ 5 Tryz.underlying119 ⟨k, 0, none⟩ 0 (5, cur.size) (by have hg' : w.drew.heap[k]? = some (.cells cur 5 (0, 0)) := hg; simp [World.shape?, hg'])
  have c2 : (w.drew.alloc (.view ⟨k, 0, none⟩ 5)).cell? ⟨g, 1, none⟩ = some (.slice (some ⟨k, 0, none⟩) 0 0) := by
    have : (w.drew.alloc (.view ⟨k, 0, none⟩ 5)).heap[g]? = _ := (Lib.alloc_old w.drew _ g hlt).trans ha
    rw [Lib.cell_of_heap this]; rfl
  have c3 : (w.alloc (.view ⟨k, 0, none⟩ 5)).drew.cell? ⟨g, 1, none⟩ = some (.slice (some ⟨k, 0, none⟩) 0 0) := c2
  have c0 : w.cell? ⟨g, 1, none⟩ = some (.slice (some ⟨k, 0, none⟩) 0 0) := c1
  clear ha hg hlt
  go_enter Tryz.func46, Tryz.ntmps46
  go_wp2
  go_region
  all_goals (go_wp2; go_ret; exact ⟨rfl, (Below.drew (Below.refl B w)).alloc hBw _⟩)

set_option maxHeartbeats 1000000 in
set_option maxRecDepth 100000 in
theorem string_some (B g m : Nat) (l : List UInt8) (w : World) (h : Raw B w g m l) (h0 : l ≠ []) :
    Calls Tryz.prog 46 #[.pointer (some ⟨g, 0, none⟩)] w fun e w' => e = .returned (.string ⟨l.toArray⟩) ∧ Below B w w' := by
  obtain ⟨hB, p, v, _, ha, hown, hne⟩ := h
  have hl0 : l.length ≠ 0 := by simpa using h0
  obtain ⟨k, cap, cur, rfl, hbg, hg, hnc, hcm, hcs, htake⟩ : ∃ k cap cur, v = .slice (some ⟨k, 0, none⟩) l.length cap ∧ B ≤ k ∧ w.heap[k]? = some (.cells cur 5 (0, 0)) ∧ l.length ≤ cap ∧ cap ≤ maxLen ∧ cur.size = cap * 1 ∧ cur.toList.take (l.length * 1) = Lib.byteCells l := by
    rcases hown.2 with ⟨_, hz⟩ | ⟨k, cap, cur, hv, r⟩
    · exact absurd hz hl0
    · exact ⟨k, cap, cur, hv, r⟩
  have c1 : w.drew.cell? ⟨g, 1, none⟩ = some (.slice (some ⟨k, 0, none⟩) l.length cap) := by rw [ha.drew.cell]; rfl
  have hSD : (Builtin.unsafeSliceData_ #[84] 119 #[.slice (some ⟨k, 0, none⟩) l.length cap]).run Tryz.prog w.drew = .ok (.pointer (some ⟨k, 0, none⟩)) w.drew :=
    Lib.run_unsafeSliceData_row _ _ _ _ _ _ (by omega)
  have hUS : (Builtin.unsafeString_ #[119, 3] 9 #[.pointer (some ⟨k, 0, none⟩), .int .i64 l.length]).run Tryz.prog w.drew = .ok (.string ⟨l.toArray⟩) (w.drew.freeze ⟨k, 0, none⟩ l.length) := by
    refine Lib.run_unsafeString_row w.drew 119 3 9 5 Tryz.underlying119 (by kernel_rfl) k cur.size (by have hg' : w.drew.heap[k]? = some (.cells cur 5 (0, 0)) := hg; simp [World.shape?, hg']) l h0 (by omega) (by unfold maxLen at hcm; omega) ?_
    intro j x hx
    exact hown.cells (g := k) rfl j (.int .u8 x.toNat) (by simp [Lib.byteCells, hx])
  clear hown ha hg htake hcs
  go_enter Tryz.func46, Tryz.ntmps46
  go_wp2
  go_region
  all_goals (go_wp2; go_ret; exact ⟨rfl, Lib.below_freeze (Below.drew (Below.refl B w)) (p := ⟨k, 0, none⟩) hbg _⟩)

theorem string_any (B g m : Nat) (l : List UInt8) (w : World) (h : Raw B w g m l) (hBw : B ≤ w.heap.size) :
    Calls Tryz.prog 46 #[.pointer (some ⟨g, 0, none⟩)] w fun e w' => e = .returned (.string ⟨l.toArray⟩) ∧ Below B w w' := by
  cases l with
  | cons x r => exact string_some B g m (x :: r) w h (by simp)
  | nil =>
    obtain ⟨hB, p, v, _, ha, hown, hne⟩ := h
    rcases hown.2 with ⟨rfl, _⟩ | ⟨k, cap, cur, rfl, hbg, hg, _, _, _, _⟩
    · exact string_nil B g p _ w ha
    · by_cases hc0 : cap = 0
      · subst hc0
        exact string_noroom B g k p _ cur w hBw ha hg
      · exact string_room B g k cap p _ w hc0 ha

end Go.Proofs.YtjgggmjjikopeaaGreatDoor

/- Signs, operands, types' texts. -/
namespace Go.Proofs.YtjgggmjjikopeaaGreatDoor
open Go.RowKit
set_option linter.unusedVariables false

theorem sgT_none (op : Nat) (h : ¬ (3 ≤ op ∧ op < 16)) : sgT op = [] := by
  unfold sgT
  split <;> first | rfl | (exfalso; omega)

set_option maxRecDepth 100000 in
set_option maxHeartbeats 1600000 in
theorem sign_lit (w : World) : ∀ op : Nat, op < 16 → 3 ≤ op → Calls Tryz.prog 138 #[.int .u8 (op : Int)] w fun e w' => e = .returned (.string ⟨(sgT op).toArray⟩) ∧ w' = w := by
  intro op h1 h2
  have : op = 3 ∨ op = 4 ∨ op = 5 ∨ op = 6 ∨ op = 7 ∨ op = 8 ∨ op = 9 ∨ op = 10 ∨ op = 11 ∨ op = 12 ∨ op = 13 ∨ op = 14 ∨ op = 15 := by omega
  rcases this with rfl | rfl | rfl | rfl | rfl | rfl | rfl | rfl | rfl | rfl | rfl | rfl | rfl <;>
    (go_enter Tryz.func138, Tryz.ntmps138
     go_wp2
     go_ret
     exact ⟨rfl, rfl⟩)

set_option maxRecDepth 100000 in
set_option maxHeartbeats 1600000 in
theorem sign_any (op : Nat) (w : World) : Calls Tryz.prog 138 #[.int .u8 (op : Int)] w fun e w' => e = .returned (.string ⟨(sgT op).toArray⟩) ∧ w' = w := by
  by_cases h : 3 ≤ op ∧ op < 16
  · exact sign_lit w op h.2 h.1
  · rw [sgT_none op h]
    have e3 : ((op : Int) == 3) = false := by rw [beq_eq_false_iff_ne]; omega
    have e4 : ((op : Int) == 4) = false := by rw [beq_eq_false_iff_ne]; omega
    have e5 : ((op : Int) == 5) = false := by rw [beq_eq_false_iff_ne]; omega
    have e6 : ((op : Int) == 6) = false := by rw [beq_eq_false_iff_ne]; omega
    have e7 : ((op : Int) == 7) = false := by rw [beq_eq_false_iff_ne]; omega
    have e8 : ((op : Int) == 8) = false := by rw [beq_eq_false_iff_ne]; omega
    have e9 : ((op : Int) == 9) = false := by rw [beq_eq_false_iff_ne]; omega
    have e10 : ((op : Int) == 10) = false := by rw [beq_eq_false_iff_ne]; omega
    have e11 : ((op : Int) == 11) = false := by rw [beq_eq_false_iff_ne]; omega
    have e12 : ((op : Int) == 12) = false := by rw [beq_eq_false_iff_ne]; omega
    have e13 : ((op : Int) == 13) = false := by rw [beq_eq_false_iff_ne]; omega
    have e14 : ((op : Int) == 14) = false := by rw [beq_eq_false_iff_ne]; omega
    have e15 : ((op : Int) == 15) = false := by rw [beq_eq_false_iff_ne]; omega
    clear h
    go_enter Tryz.func138, Tryz.ntmps138
    go_wp2
    go_ret
    exact ⟨rfl, rfl⟩

/-- How many operands an operator has. -/
def opnds (op : Nat) : Int := if op = 1 ∨ op = 2 then 0 else if 16 ≤ op ∧ op < 20 then 1 else if 3 ≤ op ∧ op < 16 then 2 else -1

set_option maxRecDepth 100000 in
set_option maxHeartbeats 1600000 in
theorem operands_any (op : Nat) (w : World) : Calls Tryz.prog 135 #[.int .u8 (op : Int)] w fun e w' => e = .returned (.int .i64 (opnds op)) ∧ w' = w := by
  have hs := sign_any op
  by_cases h0 : op = 1 ∨ op = 2
  · rcases h0 with rfl | rfl <;>
    (go_enter Tryz.func135, Tryz.ntmps135
     go_wp2_with fail
     go_ret
     exact ⟨rfl, rfl⟩)
  by_cases h1 : 16 ≤ op ∧ op < 20
  · have : op = 16 ∨ op = 17 ∨ op = 18 ∨ op = 19 := by omega
    rcases this with rfl | rfl | rfl | rfl <;>
    (go_enter Tryz.func135, Tryz.ntmps135
     go_wp2_with fail
     go_ret
     exact ⟨rfl, rfl⟩)
  have e1 : ((op : Int) == 1) = false := by rw [beq_eq_false_iff_ne]; omega
  have e2 : ((op : Int) == 2) = false := by rw [beq_eq_false_iff_ne]; omega
  have e16 : ((op : Int) == 16) = false := by rw [beq_eq_false_iff_ne]; omega
  have e17 : ((op : Int) == 17) = false := by rw [beq_eq_false_iff_ne]; omega
  have e18 : ((op : Int) == 18) = false := by rw [beq_eq_false_iff_ne]; omega
  have e19 : ((op : Int) == 19) = false := by rw [beq_eq_false_iff_ne]; omega
  by_cases h2 : 3 ≤ op ∧ op < 16
  · have he : opnds op = 2 := by unfold opnds; rw [if_neg h0, if_neg h1, if_pos h2]
    have hne : ((sgT op) == []) = false := by
      have : ∀ op, op < 16 → 3 ≤ op → ((sgT op) == []) = false := by decide
      exact this op h2.2 h2.1
    rw [he]
    obtain ⟨L, hL⟩ : ∃ L, L = sgT op := ⟨_, rfl⟩
    rw [← hL] at hs hne
    clear hL he h0 h1 h2
    go_enter Tryz.func135, Tryz.ntmps135
    go_wp2_with fail
    refine (hs _).mono ?_
    rintro e w' ⟨rfl, rfl⟩
    go_wp2
    go_ret
    exact ⟨rfl, rfl⟩
  · have he : opnds op = -1 := by unfold opnds; rw [if_neg h0, if_neg h1, if_neg h2]
    rw [he]
    rw [sgT_none op h2] at hs
    clear he h0 h1 h2
    go_enter Tryz.func135, Tryz.ntmps135
    go_wp2_with fail
    refine (hs _).mono ?_
    rintro e w' ⟨rfl, rfl⟩
    go_wp2
    go_ret
    exact ⟨rfl, rfl⟩

/-- A type's text. -/
def tyT (t : Nat) : List UInt8 := if t = 1 then [105, 110, 116] else if t = 2 then [98, 111, 111, 108] else [114, 101, 97, 108]

set_option maxRecDepth 100000 in
set_option maxHeartbeats 1600000 in
theorem typeText_any (t : Nat) (w : World) : Calls Tryz.prog 115 #[.int .u8 (t : Int)] w fun e w' => e = .returned (.string ⟨(tyT t).toArray⟩) ∧ w' = w := by
  by_cases h1 : t = 1
  · subst h1
    go_enter Tryz.func115, Tryz.ntmps115
    go_wp2
    go_ret
    exact ⟨rfl, rfl⟩
  by_cases h2 : t = 2
  · subst h2
    go_enter Tryz.func115, Tryz.ntmps115
    go_wp2
    go_ret
    exact ⟨rfl, rfl⟩
  have e1 : ((t : Int) == 1) = false := by rw [beq_eq_false_iff_ne]; omega
  have e2 : ((t : Int) == 2) = false := by rw [beq_eq_false_iff_ne]; omega
  have he : tyT t = [114, 101, 97, 108] := by unfold tyT; rw [if_neg h1, if_neg h2]
  rw [he]
  clear he h1 h2
  go_enter Tryz.func115, Tryz.ntmps115
  go_wp2
  go_ret
  exact ⟨rfl, rfl⟩

end Go.Proofs.YtjgggmjjikopeaaGreatDoor

/- The text's writing of pieces. -/
namespace Go.Proofs.YtjgggmjjikopeaaGreatDoor
open Go.RowKit
set_option linter.unusedVariables false

/-- The text holds F, or is longer than the most, as F is. -/
def Txt (B : Nat) (w : World) (g m : Nat) (F : List UInt8) : Prop := ∃ bs, (bs = F ∨ (m < bs.length ∧ m < F.length)) ∧ bs.length ≤ F.length ∧ Raw B w g m bs

theorem Txt.lt {B g m : Nat} {w : World} {F : List UInt8} (h : Txt B w g m F) : g < w.heap.size := by
  obtain ⟨_, _, _, h⟩ := h
  exact h.lt
theorem Txt.base {B g m : Nat} {w : World} {F : List UInt8} (h : Txt B w g m F) : B ≤ g := by
  obtain ⟨_, _, _, h⟩ := h
  exact h.1
theorem Txt.below {B g m : Nat} {w w' : World} {F : List UInt8} (h : Txt B w g m F) (hb : Below w.heap.size w w') : Txt B w' g m F := by
  obtain ⟨bs, h1, h2, h3⟩ := h
  exact ⟨bs, h1, h2, h3.below hb⟩

/-- Pieces one behind the other. -/
def cat (ps : List ByteArray) : List UInt8 := (ps.map (·.data.toList)).flatten

theorem i9s : (Tryz.prog.info? 9).map (fun i => (i.zero, i.size, i.bytes)) = some (some (.string ⟨#[]⟩), 1, 16) := by kernel_rfl

set_option maxHeartbeats 1600000 in
set_option maxRecDepth 100000 in
theorem put_any (B g m k : Nat) (ps : List ByteArray) (F : List UInt8) (w : World) (hm : m ≤ 9223372036854775807) (h : Txt B w g m F) (hA : At 9 w k (ps.map .string)) (hlen : (F ++ cat ps).length ≤ 70368744177664) (hps : ps.length ≤ 1000) :
    Calls Tryz.prog 81 #[.pointer (some ⟨g, 0, none⟩), .slice (some ⟨k, 0, none⟩) ps.length ps.length] w fun e w' => e = .returned (.tuple #[]) ∧ Txt B w' g m (F ++ cat ps) ∧ Wr B g w w' := by
  have hBg := h.base
  have hgw := h.lt
  have hkg : k ≠ g := by
    rintro rfl
    obtain ⟨bs, _, _, _, p, v, _, ha, _⟩ := h
    have h1 : w.heap[k]? = _ := hA
    have h2 : w.heap[k]? = _ := ha
    rw [h1] at h2
    injection h2 with h2
    injection h2 with _ h3
    cases h3
  obtain ⟨n, hn⟩ : ∃ n, Hid (n = ps.length) := ⟨_, (rfl : ps.length = _)⟩
  rw [← hn.out] at hps ⊢
  have HA : Hid (At 9 w k (ps.map .string)) := hA
  have HT : Hid (Txt B w g m F) := h
  have HL : Hid ((F ++ cat ps).length ≤ 70368744177664) := hlen
  clear hA h hlen
  go_enter Tryz.func81, Tryz.ntmps81
  go_wp2_with fail
  go_loopw [8] (fun j wr => ∃ i : Nat, j = .int .i64 (i : Int) ∧ i ≤ n ∧ Hid (Txt B wr g m (F ++ cat (ps.take i)) ∧ Wr B g w wr)) (fun j _ => n - (intOf j).toNat)
  case atStart => exact ⟨0, rfl, by omega, by simpa [cat] using HT.out, Wr.refl _ _ _⟩
  case round =>
    obtain ⟨i, rfl, hi, hR⟩ := hrel
    by_cases hc : i < n
    · obtain ⟨s, hs⟩ : ∃ s, ps[i]? = some s := ⟨ps[i]'(by rw [← hn.out]; exact hc), by rw [List.getElem?_eq_getElem]⟩
      obtain ⟨hT, hW⟩ := hR.out
      have hAr : At 9 wr k (ps.map .string) := hW.at HA.out hkg (by decide)
      have ci : wr.cell? ⟨k, i, none⟩ = some (.string s) := by rw [hAr.cell, List.getElem?_map, hs]; rfl
      have htake : ps.take (i + 1) = ps.take i ++ [s] := by rw [List.take_add_one, hs]; rfl
      have hcat : F ++ cat (ps.take (i + 1)) = (F ++ cat (ps.take i)) ++ s.data.toList := by rw [htake]; simp [cat]
      have hle : (F ++ cat (ps.take (i + 1))).length ≤ (F ++ cat ps).length := by
        have e : cat ps = cat (ps.take (i + 1)) ++ cat (ps.drop (i + 1)) := by
          unfold cat
          rw [← List.flatten_append, ← List.map_append, List.take_append_drop]
        rw [e]
        simp only [List.length_append]
        omega
      have hle2 := HL.out
      obtain ⟨bs, hbs, hbl, hraw⟩ := hT
      have hBw : B ≤ wr.heap.size := by have := hW.size; omega
      have hsl : (F ++ cat (ps.take i)).length + s.size ≤ 70368744177664 := by
        have e : s.size = s.data.toList.length := Array.length_toList.symm
        rw [hcat, List.length_append] at hle
        omega
      have h63 : bs.length ≤ 9223372036854775807 := by omega
      have cm : wr.cell? ⟨g, 2, none⟩ = some (.int .i64 (m : Int)) := by
        obtain ⟨_, p, v, _, ha, _⟩ := hraw
        rw [ha.cell]; rfl
      have hlen : ∀ q, Calls Tryz.prog 45 #[.pointer (some ⟨g, 0, none⟩)] (wr.drewN q) fun e w' => e = .returned (.int .i64 (bs.length : Int)) ∧ w' = wr.drewN q := fun q => len_any B g m bs _ hraw
      by_cases hlm : bs.length ≤ m
      · have hbF : bs = F ++ cat (ps.take i) := by
          rcases hbs with h | ⟨h, _⟩
          · exact h
          · omega
        have hcm : (bs.length : Int) ≤ (m : Int) := by omega
        have hwr : ∀ q, Calls Tryz.prog 116 #[.pointer (some ⟨g, 0, none⟩), .string s] (wr.drewN q) fun e w' => e = .returned (.tuple #[.int .i64 s.size, .nilIface]) ∧ Raw B w' g m (bs ++ s.data.toList) ∧ Wr B g (wr.drewN q) w' := fun q => write_any B g m bs s _ hraw (by omega) hBw
        have HX : Hid ((F ++ cat (ps.take (i + 1)) = bs ++ s.data.toList) ∧ Wr B g w wr) := ⟨by rw [hcat, hbF], hW⟩
        clear hbs hbl hraw hW hAr htake hcat hle hle2 hR hsl hbF
        go_wp2_with fail
        go_quiet (first | (go_at_call 45; exact Calls.quiet_of_same (hlen _)))
        go_wp2_with fail
        refine (hwr _).mono ?_
        rintro e w2 ⟨rfl, hr2, hw2⟩
        have HY : Hid (Txt B w2 g m (F ++ cat (ps.take (i + 1))) ∧ Wr B g w w2) := by
          obtain ⟨h1, h2⟩ := HX.out
          rw [h1]
          exact ⟨⟨_, .inl rfl, Nat.le_refl _, hr2⟩, h2.trans ((Wr.mk rfl rfl rfl (Nat.le_refl _) fun _ _ _ _ => rfl : Wr B g wr (wr.drewN nq)).trans hw2)⟩
        clear HX hr2 hw2 hwr hlen
        go_wp2
        go_roundw
        case rel => exact ⟨i + 1, by go_num, by omega, HY⟩
        case measure => simp [intOf]; omega
      · have hcm : ¬ (bs.length : Int) ≤ (m : Int) := by omega
        have HY : ∀ q, Hid (Txt B (wr.drewN q) g m (F ++ cat (ps.take (i + 1))) ∧ Wr B g w (wr.drewN q)) := fun q => ⟨⟨bs, .inr ⟨by omega, by rw [hcat, List.length_append]; rcases hbs with h | ⟨_, h⟩ <;> omega⟩, by rw [hcat, List.length_append]; omega, hraw⟩, hW.trans (Wr.mk rfl rfl rfl (Nat.le_refl _) fun _ _ _ _ => rfl : Wr B g wr (wr.drewN q))⟩
        clear hbs hbl hraw hW hAr htake hcat hle hle2 hR hsl
        go_wp2_with fail
        go_quiet (first | (go_at_call 45; exact Calls.quiet_of_same (hlen _)))
        go_wp2_with fail
        go_roundw
        case rel => exact ⟨i + 1, by go_num, by omega, HY _⟩
        case measure => simp [intOf]; omega
    · have hin : i = n := by omega
      have HY : Hid (Txt B wr g m (F ++ cat ps) ∧ Wr B g w wr) := by
        have := hR.out
        rw [hin, hn.out, List.take_length] at this
        exact this
      clear hR hin
      go_wp2
      go_end0
      exact ⟨rfl, HY.out⟩

end Go.Proofs.YtjgggmjjikopeaaGreatDoor

/- Names and words, as plain functions on lists of bytes. -/
namespace Go.Proofs.YtjgggmjjikopeaaGreatDoor

/-- A name. -/
def isNm (l : List UInt8) : Bool := decide (1 ≤ l.length) && decide (l.length ≤ 24) && !isWd l && decide (endOf l = (1, l.length))

/-- Letters and digits alone. -/
def allAl (l : List UInt8) : Bool := l.all (fun c => isLet c.toNat || isDig c.toNat)

theorem alN_all (l : List UInt8) : alN l = l.length ↔ allAl l = true := by
  induction l with
  | nil => simp [alN, allAl]
  | cons c r ih =>
    simp only [alN, allAl, List.all_cons, List.length_cons] at ih ⊢
    cases isLet c.toNat || isDig c.toNat
    · simp
    · simp only [if_true, Nat.add_right_cancel_iff, Bool.true_and]; exact ih

theorem end_word (c : UInt8) (r : List UInt8) : endOf (c :: r) = (1, (c :: r).length) ↔ isLet c.toNat = true ∧ allAl (c :: r) = true := by
  rw [← alN_all]
  simp only [endOf]
  cases h : isLet c.toNat
  · simp only [Bool.false_eq_true, if_false, false_and, iff_false]
    split
    · intro h2
      have h3 := congrArg Prod.fst h2
      simp only [] at h3
      have : ∀ l : List UInt8, (nmN l).1 = 2 ∨ (nmN l).1 = 3 := by
        intro l
        induction l with
        | nil => exact .inl rfl
        | cons d q ih => simp only [nmN]; split; exact .inr rfl; split; exact ih; exact .inl rfl
      rcases this r with h4 | h4 <;> omega
    · intro h2
      have h3 := congrArg Prod.fst h2
      simp at h3
  · simp [alN, h]

/-- What the document's Name asks, as it asks it. -/
theorem isNm_eq (c : UInt8) (r : List UInt8) : isNm (c :: r) = (decide ((c :: r).length ≤ 24) && isLet c.toNat && !isWd (c :: r) && allAl (c :: r)) := by
  rw [Bool.eq_iff_iff]
  simp only [isNm, Bool.and_eq_true, decide_eq_true_eq, end_word]
  constructor
  · rintro ⟨⟨⟨_, a⟩, b⟩, c, d⟩; exact ⟨⟨⟨a, c⟩, b⟩, d⟩
  · rintro ⟨⟨⟨a, c⟩, b⟩, d⟩; exact ⟨⟨⟨by simp, a⟩, b⟩, c, d⟩

theorem not_emptyN {s : ByteArray} (h : 0 < s.size) : s.toList.isEmpty = false := by
  rw [List.isEmpty_eq_false_iff, toList_bytes]
  intro h0
  have : s.size = 0 := by rw [← bytes_length s, h0]; rfl
  omega

theorem is_emptyN {s : ByteArray} (h : s.size = 0) : s.toList.isEmpty = true := by
  rw [List.isEmpty_iff, toList_bytes]
  apply List.eq_nil_of_length_eq_zero
  rw [bytes_length]; exact h

end Go.Proofs.YtjgggmjjikopeaaGreatDoor

/- lex.tokenEnd: what the first byte at a place begins, and how far that goes. -/
namespace Go.Proofs.YtjgggmjjikopeaaGreatDoor
open Go.RowKit
set_option linter.unusedVariables false

theorem isDigit_at (n : Nat) (w : World) (b : Bool) (hb : isDig n = b) : Calls Tryz.prog 121 #[.int .u8 (n : Int)] w fun e w' => e = .returned (.bool b) ∧ w' = w := by subst hb; exact isDigit_any n w
theorem isLetter_at (n : Nat) (w : World) (b : Bool) (hb : isLet n = b) : Calls Tryz.prog 91 #[.int .u8 (n : Int)] w fun e w' => e = .returned (.bool b) ∧ w' = w := by subst hb; exact isLetter_any n w
theorem isPoint_at (s : ByteArray) (i : Nat) (w : World) : Calls Tryz.prog 122 #[.string (s.extract i s.size)] w fun e w' => e = .returned (.bool (isPt ((bytes s).drop i))) ∧ w' = w := by
  rw [← bytes_from]; exact isPoint_any _ w
theorem isSign_at (s : ByteArray) (i j : Nat) (w : World) : Calls Tryz.prog 90 #[.string (s.extract i j)] w fun e w' => e = .returned (.bool (isSg (((bytes s).drop i).take (j - i)))) ∧ w' = w := by
  rw [← bytes_extract]; exact isSign_any _ w

theorem alN_yes (s : ByteArray) (j : Nat) (h : j < s.size) (hc : (isLet s[j].toNat || isDig s[j].toNat) = true) : alN ((bytes s).drop j) = alN ((bytes s).drop (j + 1)) + 1 := by
  rw [drop_at s j h]; simp only [alN, hc, if_true]
theorem alN_no (s : ByteArray) (j : Nat) (h : j < s.size) (hc : (isLet s[j].toNat || isDig s[j].toNat) = false) : alN ((bytes s).drop j) = 0 := by
  rw [drop_at s j h]; simp only [alN, hc]; rfl
theorem alN_end (s : ByteArray) (j : Nat) (h : ¬ j < s.size) : alN ((bytes s).drop j) = 0 := by
  rw [drop_end s j h]; rfl

set_option maxRecDepth 100000 in
set_option maxHeartbeats 800000 in
theorem tokenEnd_word (s : ByteArray) (k : Nat) (w : World) (hk : k < s.size) (hs : s.size ≤ 1099511627776) (h1 : isLet s[k].toNat = true) :
    Calls Tryz.prog 86 #[.string s, .int .i64 (k : Int)] w fun e w' => e = .returned (.tuple #[.int .i64 1, .int .i64 ((k + (alN ((bytes s).drop (k + 1)) + 1) : Nat) : Int)]) ∧ w' = w := by
  obtain ⟨T, hT⟩ : ∃ T, Hid (T = k + (alN ((bytes s).drop (k + 1)) + 1)) := ⟨_, (rfl : k + (alN ((bytes s).drop (k + 1)) + 1) = _)⟩
  have hkind : Hid (kindN s[k].toNat = 1) := by simp [Hid, kindN, h1]
  rw [← hT.out]
  go_enter Tryz.func86, Tryz.ntmps86
  go_wp2_with fail
  go_step3
  go_wp2_with fail
  refine (kindOf_any s[k].toNat _).mono ?_
  rintro e w1 ⟨rfl, rfl⟩
  rw [hkind.out]
  clear h1
  go_wp2
  go_step3
  go_wp2
  go_loopw [6, 7] (fun K j wr => ∃ i : Nat, K = .int .i64 1 ∧ j = .int .i64 (i : Int) ∧ k + 1 ≤ i ∧ i ≤ s.size ∧ Hid (i + alN ((bytes s).drop i) = T) ∧ wr = w1) (fun _ j _ => s.size - (intOf j).toNat)
  case atStart => exact ⟨k + 1, rfl, by go_num, by omega, by omega, by show _ = _; rw [hT.out]; omega, rfl⟩
  case round =>
    obtain ⟨i, rfl, rfl, hi1, hi2, hi3, rfl⟩ := hrel
    by_cases hc : i < s.size
    · cases a1 : isLet s[i].toNat
      · cases a2 : isDig s[i].toNat
        · have hN := alN_no s i hc (by rw [a1, a2]; rfl)
          go_wp2_with (first | (go_at_call 91; refine (isLetter_at _ _ false a1).mono ?_; rintro e w2 ⟨rfl, rfl⟩) | (go_at_call 121; refine (isDigit_at _ _ false a2).mono ?_; rintro e w2 ⟨rfl, rfl⟩))
          rw [Exit.noGoto_ret]
          go_ret2
          exact ⟨by rw [← hi3.out, hN]; rfl, rfl⟩
        · have hN := alN_yes s i hc (by rw [a1, a2]; rfl)
          have hi3' : Hid (i + 1 + alN ((bytes s).drop (i + 1)) = T) := by have := hi3.out; show _ = _; omega
          clear hi3 hN
          go_wp2_with (first | (go_at_call 91; refine (isLetter_at _ _ false a1).mono ?_; rintro e w2 ⟨rfl, rfl⟩) | (go_at_call 121; refine (isDigit_at _ _ true a2).mono ?_; rintro e w2 ⟨rfl, rfl⟩))
          go_roundw
          case rel => exact ⟨i + 1, rfl, by go_num, by omega, by omega, hi3', trivial⟩
          case measure => simp [intOf]; omega
      · have hN := alN_yes s i hc (by rw [a1]; rfl)
        have hi3' : Hid (i + 1 + alN ((bytes s).drop (i + 1)) = T) := by have := hi3.out; show _ = _; omega
        clear hi3 hN
        go_wp2_with (first | (go_at_call 91; refine (isLetter_at _ _ true a1).mono ?_; rintro e w2 ⟨rfl, rfl⟩))
        go_roundw
        case rel => exact ⟨i + 1, rfl, by go_num, by omega, by omega, hi3', trivial⟩
        case measure => simp [intOf]; omega
    · have hN := alN_end s i hc
      go_wp2
      rw [Exit.noGoto_ret]
      go_ret2
      exact ⟨by rw [← hi3.out, hN]; rfl, rfl⟩

theorem dgN_yes (s : ByteArray) (j : Nat) (h : j < s.size) (hc : isDig s[j].toNat = true) : dgN ((bytes s).drop j) = dgN ((bytes s).drop (j + 1)) + 1 := by
  rw [drop_at s j h]; simp only [dgN, hc, if_true]
theorem dgN_no (s : ByteArray) (j : Nat) (h : j < s.size) (hc : isDig s[j].toNat = false) : dgN ((bytes s).drop j) = 0 := by
  rw [drop_at s j h]; simp only [dgN, hc]; rfl
theorem dgN_end (s : ByteArray) (j : Nat) (h : ¬ j < s.size) : dgN ((bytes s).drop j) = 0 := by
  rw [drop_end s j h]; rfl
theorem nmN_pt (s : ByteArray) (j : Nat) (h : j < s.size) (hp : isPt ((bytes s).drop j) = true) : nmN ((bytes s).drop j) = (3, dgN ((bytes s).drop (j + 1)) + 1) := by
  rw [drop_at s j h] at hp ⊢; simp only [nmN, hp, if_true]
theorem nmN_yes (s : ByteArray) (j : Nat) (h : j < s.size) (hp : isPt ((bytes s).drop j) = false) (hc : isDig s[j].toNat = true) : nmN ((bytes s).drop j) = ((nmN ((bytes s).drop (j + 1))).1, (nmN ((bytes s).drop (j + 1))).2 + 1) := by
  rw [drop_at s j h] at hp ⊢; simp only [nmN, hp, hc, if_true]; rfl
theorem nmN_no (s : ByteArray) (j : Nat) (h : j < s.size) (hp : isPt ((bytes s).drop j) = false) (hc : isDig s[j].toNat = false) : nmN ((bytes s).drop j) = (2, 0) := by
  rw [drop_at s j h] at hp ⊢; simp only [nmN, hp, hc]; rfl
theorem nmN_end (s : ByteArray) (j : Nat) (h : ¬ j < s.size) : nmN ((bytes s).drop j) = (2, 0) := by
  rw [drop_end s j h]; rfl

/-- Where a number's scan stands. -/
def NumAt (s : ByteArray) (P T K i : Nat) : Prop :=
  (K = 2 ∧ (nmN ((bytes s).drop i)).1 = P ∧ i + (nmN ((bytes s).drop i)).2 = T) ∨ (K = 3 ∧ P = 3 ∧ i + dgN ((bytes s).drop i) = T)

set_option maxRecDepth 100000 in
set_option maxHeartbeats 800000 in
theorem tokenEnd_num (s : ByteArray) (k : Nat) (w : World) (hk : k < s.size) (hs : s.size ≤ 1099511627776) (h0 : isLet s[k].toNat = false) (h1 : isDig s[k].toNat = true) :
    Calls Tryz.prog 86 #[.string s, .int .i64 (k : Int)] w fun e w' => e = .returned (.tuple #[.int .i64 ((nmN ((bytes s).drop (k + 1))).1 : Nat), .int .i64 ((k + ((nmN ((bytes s).drop (k + 1))).2 + 1) : Nat) : Int)]) ∧ w' = w := by
  obtain ⟨T, hT⟩ : ∃ T, Hid (T = k + ((nmN ((bytes s).drop (k + 1))).2 + 1)) := ⟨_, (rfl : k + ((nmN ((bytes s).drop (k + 1))).2 + 1) = _)⟩
  obtain ⟨P, hP⟩ : ∃ P, Hid (P = (nmN ((bytes s).drop (k + 1))).1) := ⟨_, (rfl : (nmN ((bytes s).drop (k + 1))).1 = _)⟩
  have hkind : Hid (kindN s[k].toNat = 2) := by simp [Hid, kindN, h0, h1]
  rw [← hT.out, ← hP.out]
  go_enter Tryz.func86, Tryz.ntmps86
  go_wp2_with fail
  go_step3
  go_wp2_with fail
  refine (kindOf_any s[k].toNat _).mono ?_
  rintro e w1 ⟨rfl, rfl⟩
  rw [hkind.out]
  clear h1 h0
  go_wp2
  go_step3
  go_wp2
  go_loopw [6, 7] (fun K j wr => ∃ Kn i : Nat, K = .int .i64 (Kn : Int) ∧ j = .int .i64 (i : Int) ∧ k + 1 ≤ i ∧ i ≤ s.size ∧ Hid (NumAt s P T Kn i) ∧ wr = w1) (fun _ j _ => s.size - (intOf j).toNat)
  case atStart => exact ⟨2, k + 1, rfl, by go_num, by omega, by omega, .inl ⟨rfl, hP.out.symm, by rw [hT.out]; omega⟩, rfl⟩
  case round =>
    obtain ⟨Kn, i, rfl, rfl, hi1, hi2, hi3, rfl⟩ := hrel
    by_cases hc : i < s.size
    · rcases hi3.out with ⟨rfl, hp, ht⟩ | ⟨rfl, rfl, ht⟩
      · have HP : Hid ((nmN ((bytes s).drop i)).1 = P) := hp
        have HT : Hid (i + (nmN ((bytes s).drop i)).2 = T) := ht
        clear hp ht hi3
        cases a1 : isPt ((bytes s).drop i)
        · cases a2 : isDig s[i].toNat
          · have hN : Hid (nmN ((bytes s).drop i) = (2, 0)) := nmN_no s i hc a1 a2
            have a1' : Hid (isPt ((bytes s).drop i) = false) := a1
            clear a1
            go_wp2_with (first | (go_at_call 122; refine (isPoint_at s i _).mono ?_; rw [a1'.out]; rintro e w2 ⟨rfl, rfl⟩) | (go_at_call 121; refine (isDigit_at _ _ false a2).mono ?_; rintro e w2 ⟨rfl, rfl⟩))
            rw [Exit.noGoto_ret]
            go_ret2
            have h2 := HP.out
            have h3 := HT.out
            rw [hN.out] at h2 h3
            exact ⟨by rw [← h2, ← h3]; rfl, rfl⟩
          · have hN : Hid (nmN ((bytes s).drop i) = ((nmN ((bytes s).drop (i + 1))).1, (nmN ((bytes s).drop (i + 1))).2 + 1)) := nmN_yes s i hc a1 a2
            have a1' : Hid (isPt ((bytes s).drop i) = false) := a1
            clear a1
            go_wp2_with (first | (go_at_call 122; refine (isPoint_at s i _).mono ?_; rw [a1'.out]; rintro e w2 ⟨rfl, rfl⟩) | (go_at_call 121; refine (isDigit_at _ _ true a2).mono ?_; rintro e w2 ⟨rfl, rfl⟩))
            go_roundw
            case rel =>
              have h2 := HP.out
              have h3 := HT.out
              rw [hN.out] at h2 h3
              exact ⟨2, i + 1, rfl, by go_num, by omega, by omega, .inl ⟨rfl, h2, by rw [← h3]; simp only []; omega⟩, trivial⟩
            case measure => simp [intOf]; omega
        · have hN : Hid (nmN ((bytes s).drop i) = (3, dgN ((bytes s).drop (i + 1)) + 1)) := nmN_pt s i hc a1
          have a1' : Hid (isPt ((bytes s).drop i) = true) := a1
          clear a1
          go_wp2_with (first | (go_at_call 122; refine (isPoint_at s i _).mono ?_; rw [a1'.out]; rintro e w2 ⟨rfl, rfl⟩))
          go_roundw
          case rel =>
            have h2 := HP.out
            have h3 := HT.out
            rw [hN.out] at h2 h3
            exact ⟨3, i + 1, rfl, by go_num, by omega, by omega, .inr ⟨rfl, h2.symm, by rw [← h3]; simp only []; omega⟩, trivial⟩
          case measure => simp [intOf]; omega
      · have HT : Hid (i + dgN ((bytes s).drop i) = T) := ht
        clear ht hi3
        cases a2 : isDig s[i].toNat
        · have hN : Hid (dgN ((bytes s).drop i) = 0) := dgN_no s i hc a2
          go_wp2_with (first | (go_at_call 121; refine (isDigit_at _ _ false a2).mono ?_; rintro e w2 ⟨rfl, rfl⟩))
          rw [Exit.noGoto_ret]
          go_ret2
          exact ⟨by rw [← HT.out, hN.out]; rfl, rfl⟩
        · have hN : Hid (dgN ((bytes s).drop i) = dgN ((bytes s).drop (i + 1)) + 1) := dgN_yes s i hc a2
          go_wp2_with (first | (go_at_call 121; refine (isDigit_at _ _ true a2).mono ?_; rintro e w2 ⟨rfl, rfl⟩))
          go_roundw
          case rel => exact ⟨3, i + 1, rfl, by go_num, by omega, by omega, .inr ⟨rfl, rfl, by have := HT.out; have := hN.out; omega⟩, trivial⟩
          case measure => simp [intOf]; omega
    · have hfin : Kn = P ∧ i = T := by
        rcases hi3.out with ⟨rfl, hp, ht⟩ | ⟨rfl, rfl, ht⟩
        · rw [nmN_end s i hc] at hp ht; exact ⟨hp, ht⟩
        · rw [dgN_end s i hc] at ht; exact ⟨rfl, ht⟩
      obtain ⟨rfl, rfl⟩ := hfin
      clear hi3 hP hT
      go_wp2
      rw [Exit.noGoto_ret]
      go_ret2
      exact ⟨rfl, rfl⟩

theorem sg_two (s : ByteArray) (k : Nat) (h : k + 1 < s.size) : ((bytes s).drop k).take 2 = [s[k], s[k + 1]] := by
  rw [drop_at s k (by omega), drop_at s (k + 1) h]; rfl

set_option maxRecDepth 100000 in
set_option maxHeartbeats 800000 in
theorem tokenEnd_sign (s : ByteArray) (k : Nat) (w : World) (hk : k < s.size) (hs : s.size ≤ 1099511627776) (h0 : isLet s[k].toNat = false) (h1 : isDig s[k].toNat = false) :
    Calls Tryz.prog 86 #[.string s, .int .i64 (k : Int)] w fun e w' => e = .returned (.tuple #[.int .i64 4, .int .i64 ((k + (sgN s[k] ((bytes s).drop (k + 1)) + 1) : Nat) : Int)]) ∧ w' = w := by
  obtain ⟨T, hT⟩ : ∃ T, Hid (T = k + (sgN s[k] ((bytes s).drop (k + 1)) + 1)) := ⟨_, (rfl : k + (sgN s[k] ((bytes s).drop (k + 1)) + 1) = _)⟩
  have hkind : Hid (kindN s[k].toNat = 4) := by simp [Hid, kindN, h0, h1]
  rw [← hT.out]
  go_enter Tryz.func86, Tryz.ntmps86
  go_wp2_with fail
  go_step3
  go_wp2_with fail
  refine (kindOf_any s[k].toNat _).mono ?_
  rintro e w1 ⟨rfl, rfl⟩
  rw [hkind.out]
  clear h1 h0
  go_wp2
  go_step3
  go_wp2
  go_loopw [6, 7] (fun K j wr => ∃ i : Nat, K = .int .i64 4 ∧ j = .int .i64 (i : Int) ∧ i ≤ s.size ∧ (i = k + 1 ∨ (i = k + 2 ∧ T = k + 2)) ∧ wr = w1) (fun _ j _ => s.size - (intOf j).toNat)
  case atStart => exact ⟨k + 1, rfl, by go_num, by omega, .inl rfl, rfl⟩
  case round =>
    obtain ⟨i, rfl, rfl, hi2, hi3, rfl⟩ := hrel
    by_cases hc : i < s.size
    · have hsg : Hid (isSg (((bytes s).drop k).take (i + 1 - k)) = decide (i = k + 1 ∧ T = k + 2)) := by
        show _ = _
        rcases hi3 with rfl | ⟨rfl, h⟩
        · rw [show k + 1 + 1 - k = 2 by omega, sg_two s k hc, hT.out, drop_at s (k + 1) hc]
          simp only [sgN]
          cases isSg [s[k], s[k + 1]] <;> simp
        · rw [isSg_three _ (by rw [List.length_take, List.length_drop, bytes_length]; omega)]
          simp
      by_cases hT2 : i = k + 1 ∧ T = k + 2
      · obtain ⟨rfl, hT3⟩ := hT2
        have hsg' : Hid (isSg (((bytes s).drop k).take (k + 1 + 1 - k)) = true) := by show _ = _; rw [hsg.out]; simp [hT3]
        clear hsg
        go_wp2_with (first | (go_at_call 90; refine (isSign_at s k (k + 1 + 1) _).mono ?_; rw [hsg'.out]; rintro e w2 ⟨rfl, rfl⟩))
        go_roundw
        case rel => exact ⟨k + 2, rfl, by go_num, by omega, .inr ⟨rfl, hT3⟩, trivial⟩
        case measure => simp [intOf]; omega
      · have hsg' : Hid (isSg (((bytes s).drop k).take (i + 1 - k)) = false) := by show _ = _; rw [hsg.out]; simp [hT2]
        have hfin : Hid (i = T) := by
          show i = T
          have := hT.out
          rcases hi3 with rfl | ⟨rfl, h⟩
          · rw [drop_at s (k + 1) hc] at this
            simp only [sgN] at this
            split at this <;> omega
          · exact h.symm
        have hki : k ≤ i := by omega
        clear hsg
        go_wp2_with (first | (go_at_call 90; refine (isSign_at s k (i + 1) _).mono ?_; rw [hsg'.out]; rintro e w2 ⟨rfl, rfl⟩))
        rw [Exit.noGoto_ret]
        go_ret2
        exact ⟨by rw [hfin.out]; rfl, rfl⟩
    · have hfin : Hid (i = T) := by
        show i = T
        have := hT.out
        rcases hi3 with rfl | ⟨rfl, h⟩
        · rw [drop_end s (k + 1) hc] at this
          simp only [sgN] at this
          omega
        · exact h.symm
      go_wp2
      rw [Exit.noGoto_ret]
      go_ret2
      exact ⟨by rw [hfin.out]; rfl, rfl⟩

theorem tokenEnd_any (s : ByteArray) (k : Nat) (w : World) (hk : k < s.size) (hs : s.size ≤ 1099511627776) :
    Calls Tryz.prog 86 #[.string s, .int .i64 (k : Int)] w fun e w' => e = .returned (.tuple #[.int .i64 ((endOf ((bytes s).drop k)).1 : Nat), .int .i64 ((k + (endOf ((bytes s).drop k)).2 : Nat) : Int)]) ∧ w' = w := by
  have hd := drop_at s k hk
  cases a1 : isLet s[k].toNat
  · cases a2 : isDig s[k].toNat
    · have h := tokenEnd_sign s k w hk hs a1 a2
      have he : endOf ((bytes s).drop k) = (4, sgN s[k] ((bytes s).drop (k + 1)) + 1) := by rw [hd]; simp only [endOf, a1, a2]; rfl
      rw [he]; exact h
    · have h := tokenEnd_num s k w hk hs a1 a2
      have he : endOf ((bytes s).drop k) = ((nmN ((bytes s).drop (k + 1))).1, (nmN ((bytes s).drop (k + 1))).2 + 1) := by rw [hd]; simp only [endOf, a1, a2, if_true]; rfl
      rw [he]; exact h
  · have h := tokenEnd_word s k w hk hs a1
    have he : endOf ((bytes s).drop k) = (1, alN ((bytes s).drop (k + 1)) + 1) := by rw [hd]; simp only [endOf, a1, if_true]
    rw [he]; exact h

end Go.Proofs.YtjgggmjjikopeaaGreatDoor

/- lex.Name, and the document's own Words, Word and Name. -/
namespace Go.Proofs.YtjgggmjjikopeaaGreatDoor
open Go.RowKit
set_option linter.unusedVariables false

theorem isNm_str (s : ByteArray) (hp : 0 < s.size) (hl : s.size ≤ 24) (hw : isWd (bytes s) = false) : isNm (bytes s) = decide (endOf (bytes s) = (1, s.size)) := by
  rw [isNm, bytes_length, hw]
  simp [show 1 ≤ s.size by omega, hl]

theorem isNm_not (s : ByteArray) (h : s.size = 0 ∨ 24 < s.size ∨ isWd (bytes s) = true) : isNm (bytes s) = false := by
  rw [isNm, bytes_length]
  rcases h with h | h | h
  · simp [h]
  · simp [show ¬ s.size ≤ 24 by omega]
  · simp [h]

theorem tokenEnd_zero (s : ByteArray) (w : World) (hk : 0 < s.size) (hs : s.size ≤ 1099511627776) (K E : Nat) (h : endOf (bytes s) = (K, E)) :
    Calls Tryz.prog 86 #[.string s, .int .i64 0] w fun e w' => e = .returned (.tuple #[.int .i64 (K : Nat), .int .i64 (E : Nat)]) ∧ w' = w := by
  have := tokenEnd_any s 0 w hk hs
  rw [List.drop_zero, h] at this
  simpa using this

set_option maxRecDepth 100000 in
set_option maxHeartbeats 800000 in
theorem name_any (s : ByteArray) (w : World) : Calls Tryz.prog 77 #[.string s] w fun e w' => e = .returned (.bool (isNm (bytes s))) ∧ w' = w := by
  by_cases h0 : s.size = 0
  · rw [isNm_not s (.inl h0)]
    have he := is_emptyN h0
    go_enter Tryz.func77, Tryz.ntmps77
    go_wp2
    go_ret
    exact ⟨rfl, rfl⟩
  have hp : 0 < s.size := by omega
  have he := not_emptyN hp
  by_cases h1 : 24 < s.size
  · rw [isNm_not s (.inr (.inl h1))]
    go_enter Tryz.func77, Tryz.ntmps77
    go_wp2
    go_ret
    exact ⟨rfl, rfl⟩
  cases hw : isWd (bytes s)
  · rw [isNm_str s hp (by omega) hw]
    obtain ⟨K, E, hKE⟩ : ∃ K E, endOf (bytes s) = (K, E) := ⟨_, _, rfl⟩
    rw [hKE]
    have HKE : Hid (endOf (bytes s) = (K, E)) := hKE
    have HW : Hid (isWd (bytes s) = false) := hw
    clear hKE hw
    go_enter Tryz.func77, Tryz.ntmps77
    go_wp2_with (first | (go_at_call 113; refine (word_any s _).mono ?_; rw [HW.out]; rintro e w1 ⟨rfl, rfl⟩) | (go_at_call 86; refine (tokenEnd_zero s _ hp (by omega) K E HKE.out).mono ?_; rintro e w1 ⟨rfl, rfl⟩))
    all_goals
      go_ret
      refine ⟨?_, rfl⟩
      simp
      try (rw [Bool.eq_iff_iff]; simp)
      try omega
  · rw [isNm_not s (.inr (.inr hw))]
    have HW : Hid (isWd (bytes s) = true) := hw
    clear hw
    go_enter Tryz.func77, Tryz.ntmps77
    go_wp2_with (first | (go_at_call 113; refine (word_any s _).mono ?_; rw [HW.out]; rintro e w1 ⟨rfl, rfl⟩))
    go_ret
    exact ⟨rfl, rfl⟩

end Go.Proofs.YtjgggmjjikopeaaGreatDoor
