/- Joined texts of the proof. -/
import Derived.Test.YtbamocalhojmeaaJ16
import Derived.Maps.OwnRows
import Derived.Test.YtbamocalhojmeaaJ23

/- Maps from numbers to rows of numbers, as norm.gathered makes them: the laws of their operations. -/
namespace Go.Proofs.Ytbamocalhojmeaa
open Go.RowKit
set_option linter.unusedVariables false

/-- The keys are the places. -/
def KeysAt (l : List MapEntry) (j : Nat) : Prop := ∀ (i : Nat) (e : MapEntry), l[i]? = some e → e.key = .int .i64 ((j + i : Nat) : Int)
theorem KeysAt.tail {e : MapEntry} {l : List MapEntry} {j : Nat} (h : KeysAt (e :: l) j) : KeysAt l (j + 1) := fun i x hx => by
  have := h (i + 1) x (by simpa using hx)
  rw [this]
  congr 2
  omega
theorem find_hit : ∀ (l : List MapEntry) (j k : Nat) (e : MapEntry), KeysAt l j → l[k]? = some e → Instr.findNow (.int .i64) (.int .i64 ((j + k : Nat) : Int)) l j = some (some (j + k, e.val))
  | [], j, k, e, _, h => by simp at h
  | x :: l, j, k, e, hk, h => by
    have h0 := hk 0 x rfl
    rw [Nat.add_zero] at h0
    unfold Instr.findNow
    rw [h0]
    cases k with
    | zero =>
      simp at h
      subst h
      simp [Instr.sameNow]
    | succ k =>
      have : Instr.sameNow (.int .i64) (.int .i64 ((j + (k + 1) : Nat) : Int)) (.int .i64 (j : Int)) = some false := by simp [Instr.sameNow]; omega
      rw [this]
      have ih := find_hit l (j + 1) k e hk.tail (by simpa using h)
      rw [show j + 1 + k = j + (k + 1) by omega] at ih
      exact ih
theorem find_none : ∀ (l : List MapEntry) (j k : Nat), KeysAt l j → j + l.length ≤ k → Instr.findNow (.int .i64) (.int .i64 (k : Int)) l j = some none
  | [], j, k, _, _ => rfl
  | x :: l, j, k, hk, h => by
    have h0 := hk 0 x rfl
    rw [Nat.add_zero] at h0
    rw [List.length_cons] at h
    unfold Instr.findNow
    rw [h0, show Instr.sameNow (.int .i64) (.int .i64 (k : Int)) (.int .i64 (j : Int)) = some false by simp [Instr.sameNow]; omega]
    exact find_none l (j + 1) k hk.tail (by omega)
section
variable {w : World} {b clock k : Nat} {es : Array MapEntry}
theorem run_getO (h : w.heap[b]? = some (.map es clock)) : (getObj b).run Try.prog w = .ok (.map es clock) w := by simp [getObj, Sem.run, h]
theorem run_setO (h : w.heap[b]? = some (.map es clock)) (o : Obj) : (setObj b o).run Try.prog w = .ok () (w.putObj b o) := by simp [setObj, Sem.run, World.putObj, h]
theorem run_check3 (em : Bool) (z : Int) (w : World) : (Instr.checkKey em 10000 3 (.int .i64 z)).run Try.prog w = .ok () w := by
  show (Instr.checkKey em (9999 + 1) 3 (.int .i64 z)).run Try.prog w = .ok () w
  unfold Instr.checkKey
  simp [run_underlying Try.underlying3]
theorem run_find3 {l : List MapEntry} {z : Int} {a : Option (Nat × Value)} (h : Instr.findNow (.int .i64) (.int .i64 z) l 0 = some a) (w : World) : (Instr.findKey 3 (.int .i64 z) l).run Try.prog w = .ok a w := by
  unfold Instr.findKey
  simp [run_underlying Try.underlying3, h]
theorem lookup_hit (hb : w.heap[b]? = some (.map es clock)) (hk : KeysAt es.toList 0) {e : MapEntry} (he : es.toList[k]? = some e) : (Instr.lookup 66 (.map (some b)) (.int .i64 (k : Int)) false).run Try.prog w = .ok e.val w := by
  have hf := find_hit es.toList 0 k e hk he
  rw [Nat.zero_add] at hf
  unfold Instr.lookup
  simp [run_underlying Try.underlying66, run_getO hb, run_check3, run_find3 hf]
theorem lookup_none (hb : w.heap[b]? = some (.map es clock)) (hk : KeysAt es.toList 0) (h : es.toList.length ≤ k) : (Instr.lookup 66 (.map (some b)) (.int .i64 (k : Int)) false).run Try.prog w = .ok (.slice none 0 0) w := by
  have hf := find_none es.toList 0 k hk (by omega)
  unfold Instr.lookup
  simp [run_underlying Try.underlying66, run_getO hb, run_check3, run_find3 hf]
theorem update_hit (hb : w.heap[b]? = some (.map es clock)) (hk : KeysAt es.toList 0) {e : MapEntry} (he : es.toList[k]? = some e) (v : Value) :
    (Instr.mapUpdate 66 (.map (some b)) (.int .i64 (k : Int)) v).run Try.prog w = .ok () (w.putObj b (.map (es.modify k fun e => { e with key := .int .i64 (k : Int), val := v }) clock)) := by
  have hf := find_hit es.toList 0 k e hk he
  rw [Nat.zero_add] at hf
  have hkey : ((es[k]?).map (·.key)).getD (.int .i64 (k : Int)) = .int .i64 (k : Int) := by
    have := hk k e he
    rw [Nat.zero_add] at this
    have h2 : es[k]? = some e := by simpa using he
    rw [h2]
    simpa using this
  unfold Instr.mapUpdate
  simp [run_underlying Try.underlying66, run_getO hb, run_setO hb, run_check3, run_find3 hf, hkey, Instr.keyThatStays, Instr.sameBits]
theorem update_push (hb : w.heap[b]? = some (.map es clock)) (hk : KeysAt es.toList 0) (h : es.toList.length ≤ k) (v : Value) :
    (Instr.mapUpdate 66 (.map (some b)) (.int .i64 (k : Int)) v).run Try.prog w = .ok () (w.putObj b (.map (es.push { key := .int .i64 (k : Int), val := v, born := clock }) (clock + 1))) := by
  have hf := find_none es.toList 0 k hk (by omega)
  unfold Instr.mapUpdate
  simp [run_underlying Try.underlying66, run_getO hb, run_setO hb, run_check3, run_find3 hf]
end

/-- All are numbers. -/
def AllI (cs : List Value) : Prop := ∀ u ∈ cs, ∃ z : Int, u = .int .i64 z
/-- A row of numbers in a block of its own, with its room, which holds numbers too. -/
def RwZ (B : Nat) (w : World) (v : Value) (zs : List Int) : Prop :=
  ∃ g cs, v = .slice (some ⟨g, 0, none⟩) zs.length cs.length ∧ B ≤ g ∧ At 3 w g cs ∧ AllI cs ∧ zs.length ≤ cs.length ∧ cs.length ≤ maxLen ∧ cs.take zs.length = zs.map I64
theorem RwZ.own {B : Nat} {w : World} {v : Value} {zs : List Int} (h : RwZ B w v zs) : OwnI B w v zs := by
  obtain ⟨g, cs, rfl, h1, h2, h3, h4, h5, h6⟩ := h
  exact ⟨by simp, .inr ⟨g, cs.length, cs.toArray, rfl, h1, h2, h4, h5, by simp, by simpa using h6⟩⟩
theorem RwZ.kept {B : Nat} {w w' : World} {v : Value} {zs : List Int} (h : RwZ B w v zs) (hk : ∀ g, v.ownBlock = some g → w'.heap[g]? = w.heap[g]?) : RwZ B w' v zs := by
  obtain ⟨g, cs, rfl, h1, h2, h3⟩ := h
  exact ⟨g, cs, rfl, h1, (hk g rfl).trans h2, h3⟩
theorem allI_set {cs : List Value} (h : AllI cs) (k : Nat) (z : Int) : AllI (cs.set k (.int .i64 z)) := fun u hu => by
  rcases List.mem_or_eq_of_mem_set hu with h1 | h1
  · exact h u h1
  · exact ⟨z, h1⟩
theorem take_set_self {α : Type} (l : List α) (k : Nat) (x : α) (h : k < l.length) : (l.set k x).take (k + 1) = l.take k ++ [x] := by
  rw [List.take_set, List.set_eq_take_append_cons_drop, if_pos (by simp; omega)]
  simp [List.take_take]
theorem addr_add0 (g j : Nat) : (⟨g, 0, none⟩ : Addr).add j = ⟨g, j, none⟩ := by unfold Addr.add; split <;> simp_all
/-- An append to nil or to such a row. -/
theorem app_z (w : World) (B : Nat) (ty : TypeId) (v : Value) (zs : List Int) (hv : (v = .slice none 0 0 ∧ zs = []) ∨ RwZ B w v zs) (g1 : Nat) (z : Int) (hc : w.cell? ⟨g1, 0, none⟩ = some (.int .i64 z)) (hl : zs.length ≤ 1048576) (hB : B ≤ w.heap.size) :
    ∃ v' w', (Builtin.append_ #[23, 23] ty #[v, .slice (some ⟨g1, 0, none⟩) 1 1]).run Try.prog w = .ok v' w' ∧ RwZ B w' v' (zs ++ [z]) ∧ w.grownBy w' v.ownBlock ∧ (v'.ownBlock = v.ownBlock ∨ v'.ownBlock = some w.heap.size) := by
  obtain ⟨ie, hi, hz0, hz1, hz2⟩ := info_parts Try.info3
  have hn : ∀ (j : Nat) (u : Value), [Value.int .i64 z][j]? = some u → w.cell? ((⟨g1, 0, none⟩ : Addr).add j) = some u := by
    intro j u hj
    match j, hj with
    | 0, hj => simp at hj; subst hj; simpa [Addr.add] using hc
  have hzc : ∀ n, AllI (Builtin.zeroCells (Value.int .i64 0).cells n).toList := fun n u hu => by
    simp [Builtin.zeroCells, Value.cells] at hu
    obtain ⟨i, _, hi⟩ := hu
    rw [Nat.mod_one] at hi
    exact ⟨0, hi.symm⟩
  rcases hv with ⟨rfl, rfl⟩ | ⟨g, cs, rfl, h1, h2, h3, h4, h5, h6⟩
  · have hr := run_append_nil (P := Try.prog) w 23 ty 3 ie (.int .i64 0) Try.underlying23 hi hz0 ⟨g1, 0, none⟩ 1 1 [.int .i64 z] (by rw [hz1]; rfl) hn (by omega) (by omega) (by rw [hz2]; omega)
    have hge := grownCap_ge w 1 0 3
    have hcm := grownCap_le_maxLen w 1 0 3 (by unfold maxLen; omega)
    refine ⟨_, _, hr, ⟨w.heap.size, (#[Value.int .i64 z] ++ Builtin.zeroCells (Value.int .i64 0).cells (grownCap w 1 0 3 - 1)).toList, ?_, hB, (by show (w.drew.alloc _).heap[w.drew.heap.size]? = _; rw [World.alloc_heap_new]), ?_, ?_, ?_, ?_⟩, ⟨rfl, rfl, rfl, by simp, fun k hk _ => Below.heap_alloc w.drew _ k hk⟩, .inr rfl⟩
    · simp [size_zeroCells, Value.cells]
      omega
    · intro u hu
      simp only [Array.toList_append, List.mem_append] at hu
      rcases hu with hu | hu
      · exact ⟨z, by simpa using hu⟩
      · exact hzc _ u hu
    · simp
    · simp [size_zeroCells, Value.cells]
      omega
    · simp [I64]
  · by_cases hroom : zs.length + 1 ≤ cs.length
    · have hr := run_append_room (P := Try.prog) w 23 ty 3 ie Try.underlying23 hi g zs.length cs.length cs.toArray h2 ⟨g1, 0, none⟩ 1 1 [.int .i64 z] (by rw [hz1]; rfl) hn (by intro u hu; simp at hu; subst hu; rfl) hroom (by rw [hz1]; simp; omega)
      refine ⟨_, _, hr, ⟨g, cs.set zs.length (.int .i64 z), by simp, h1, ?_, allI_set h3 _ _, by simp; omega, by simpa using h5, ?_⟩, ⟨rfl, rfl, rfl, by simp, fun k' _ hk' => setRow_other w g k' _ (fun e => hk' (by simp [Value.ownBlock, e]))⟩, .inl rfl⟩
      · unfold At
        rw [setRow_heap w g cs.toArray _ 3 _ h2, hz1, List.set_eq_take_append_cons_drop, if_pos (by omega)]
        simp
      · rw [List.length_append, show zs.length + [z].length = zs.length + 1 from rfl, take_set_self cs zs.length _ (by omega), h6]
        simp [I64]
    · have hel : zs.length = cs.length := by omega
      have hcs : cs = zs.map I64 := by rw [← h6, hel, List.take_length]
      have hr := run_append_grow (P := Try.prog) w 23 ty 3 ie (.int .i64 0) Try.underlying23 hi hz0 ⟨g, 0, none⟩ zs.length cs.length cs (by rw [hz1]; omega) (fun j u hj => by
        rw [addr_add0, h2.cell j, hj]) ⟨g1, 0, none⟩ 1 1 [.int .i64 z] (by rw [hz1]; rfl) hn (by omega) (by omega) (growslice_fits (by omega) (by rw [hz2]; omega))
      have hge := grownCap_ge w (zs.length + 1) cs.length 3
      have hcm := grownCap_le_maxLen w (zs.length + 1) cs.length 3 (by unfold maxLen; omega)
      refine ⟨_, _, hr, ⟨w.heap.size, (cs.toArray ++ #[Value.int .i64 z] ++ Builtin.zeroCells (Value.int .i64 0).cells (grownCap w (zs.length + 1) cs.length 3 - (zs.length + 1))).toList, ?_, hB, (by show (w.drew.alloc _).heap[w.drew.heap.size]? = _; rw [World.alloc_heap_new]), ?_, ?_, ?_, ?_⟩, ⟨rfl, rfl, rfl, by simp, fun k hk _ => Below.heap_alloc w.drew _ k hk⟩, .inr rfl⟩
      · simp [size_zeroCells, Value.cells]
        omega
      · intro u hu
        simp only [Array.toList_append, List.mem_append] at hu
        rcases hu with (hu | hu) | hu
        · exact h3 u (by simpa using hu)
        · exact ⟨z, by simpa using hu⟩
        · exact hzc _ u hu
      · simp
        omega
      · simp [size_zeroCells, Value.cells]
        omega
      · have e : (cs.toArray ++ #[Value.int .i64 z] ++ Builtin.zeroCells (Value.int .i64 0).cells (grownCap w (zs.length + 1) cs.length 3 - (zs.length + 1))).toList = (cs ++ [Value.int .i64 z]) ++ (Builtin.zeroCells (Value.int .i64 0).cells (grownCap w (zs.length + 1) cs.length 3 - (zs.length + 1))).toList := by simp
        rw [e, List.take_append_of_le_length (by simp; omega), List.take_of_length_le (by simp; omega), hcs]
        simp [I64]
end Go.Proofs.Ytbamocalhojmeaa

/- norm.gathered. -/
namespace Go.Proofs.Ytbamocalhojmeaa
open Go.RowKit
set_option linter.unusedVariables false
attribute [local go_sem ↓] Go.wp_at_zero Go.wp_at_succ

/-- A map from places to rows of numbers, each in a block of its own. -/
structure Grp (B : Nat) (W : World) (b : Nat) (Ls : List (List Int)) (V : List Value) : Prop where
  map : ∃ (es : Array MapEntry) (clock : Nat), W.heap[b]? = some (.map es clock) ∧ KeysAt es.toList 0 ∧ es.toList.map (·.val) = V
  len : V.length = Ls.length
  row : ∀ (i : Nat) (v : Value) (zs : List Int), V[i]? = some v → Ls[i]? = some zs → RwZ B W v zs
  ap : ∀ (i j : Nat) (u v : Value), i ≠ j → V[i]? = some u → V[j]? = some v → u.ownBlock ≠ v.ownBlock
  lt : b < B
section
variable {B : Nat} {W W1 : World} {b k : Nat} {Ls : List (List Int)} {V : List Value} {v v' : Value} {zs' : List Int}
theorem rwz_block {zs : List Int} (h : RwZ B W v zs) : ∃ g, v.ownBlock = some g ∧ B ≤ g ∧ g < W.heap.size := by
  obtain ⟨g, cs, rfl, h1, h2, _⟩ := h
  exact ⟨g, rfl, h1, h2.lt⟩
theorem Grp.lookup (h : Grp B W b Ls V) (hv : V[k]? = some v) : (Instr.lookup 66 (.map (some b)) (.int .i64 (k : Int)) false).run Try.prog W = .ok v W := by
  obtain ⟨es, clock, h1, h2, h3⟩ := h.map
  rw [← h3, List.getElem?_map] at hv
  obtain ⟨e, he, rfl⟩ := Option.map_eq_some_iff.1 hv
  exact lookup_hit h1 h2 he
theorem Grp.missing (h : Grp B W b Ls V) (hk : Ls.length ≤ k) : (Instr.lookup 66 (.map (some b)) (.int .i64 (k : Int)) false).run Try.prog W = .ok (.slice none 0 0) W := by
  obtain ⟨es, clock, h1, h2, h3⟩ := h.map
  refine lookup_none h1 h2 ?_
  have := congrArg List.length h3
  rw [List.length_map, h.len] at this
  omega
theorem grown_put {es : Array MapEntry} {clock : Nat} (o : Obj) : W.grownBy (W.putObj b o) (some b) := grownBy_putObj' W b o
/-- A row's change, then the store at its key. -/
theorem Grp.put (h : Grp B W b Ls V) (hv : V[k]? = some v) (hg : W.grownBy W1 v.ownBlock) (hr : RwZ B W1 v' zs') (hf : v'.ownBlock = v.ownBlock ∨ ∀ g, v'.ownBlock = some g → W.heap.size ≤ g) :
    ∃ W2, (Instr.mapUpdate 66 (.map (some b)) (.int .i64 (k : Int)) v').run Try.prog W1 = .ok () W2 ∧ Grp B W2 b (Ls.set k zs') (V.set k v') ∧ W1.grownBy W2 (some b) := by
  obtain ⟨es, clock, h1, h2, h3⟩ := h.map
  have hk : k < V.length := (List.getElem?_eq_some_iff.1 hv).1
  have hkz : k < Ls.length := by rw [← h.len]; exact hk
  have hvr := h.row k v _ hv (List.getElem?_eq_getElem hkz)
  obtain ⟨g0, hg0, hg0B, hg0l⟩ := rwz_block hvr
  have hblt := (Array.getElem?_eq_some_iff.1 h1).1
  have hlt := h.lt
  have hb1 : W1.heap[b]? = some (.map es clock) := (hg.block b hblt (by rw [hg0]; intro e; cases e; omega)).trans h1
  have hve := hv
  rw [← h3, List.getElem?_map] at hve
  obtain ⟨e, he, _⟩ := Option.map_eq_some_iff.1 hve
  have hrun := update_hit hb1 h2 he v'
  refine ⟨_, hrun, ⟨⟨_, clock, World.putObj_heap_same (Array.getElem?_eq_some_iff.1 hb1).1, ?_, ?_⟩, by simp [h.len], fun i u zs hu hz => ?_, fun i j u1 u2 hij hu1 hu2 => ?_, h.lt⟩, grownBy_putObj' W1 b _⟩
  · intro i x hx
    rw [Array.toList_modify, List.getElem?_modify] at hx
    obtain ⟨y, hy, rfl⟩ := Option.map_eq_some_iff.1 hx
    have := h2 i y hy
    by_cases hik : k = i
    · rw [if_pos hik, ← hik]
      simp
    · rw [if_neg hik]
      exact this
  · rw [Array.toList_modify, ← h3]
    apply List.ext_getElem?
    intro i
    rw [List.getElem?_map, List.getElem?_modify, List.getElem?_set]
    by_cases hik : k = i
    · subst hik
      rw [he]
      simp
      exact (List.getElem?_eq_some_iff.1 he).1
    · simp [hik]
  · have hke : ∀ g, u.ownBlock = some g → (W1.putObj b (.map (es.modify k fun e => { e with key := .int .i64 (k : Int), val := v' }) clock)).heap[g]? = W1.heap[g]? ∨ g = b := fun g hgb => by
      by_cases hgg : g = b
      · exact .inr hgg
      · exact .inl (World.putObj_heap_other hgg)
    by_cases hik : k = i
    · subst hik
      rw [List.getElem?_set_self hk] at hu
      rw [List.getElem?_set_self hkz] at hz
      cases hu
      cases hz
      refine hr.kept fun g hgb => ?_
      obtain ⟨g2, h4, h5, _⟩ := rwz_block hr
      rw [hgb] at h4
      cases h4
      exact World.putObj_heap_other (by omega)
    · rw [List.getElem?_set_ne hik] at hu hz
      have hu0 := h.row i u zs hu hz
      obtain ⟨g2, h4, h5, h6⟩ := rwz_block hu0
      refine hu0.kept fun g hgb => ?_
      rw [h4] at hgb
      cases hgb
      rw [World.putObj_heap_other (by omega)]
      exact hg.block g2 h6 (fun e => h.ap i k u v (fun q => hik q.symm) hu hv (by rw [h4, ← e]))
  · by_cases h1i : k = i
    · subst h1i
      rw [List.getElem?_set_self hk] at hu1
      cases hu1
      rw [List.getElem?_set_ne hij] at hu2
      rcases hf with hf | hf
      · rw [hf]
        exact h.ap k j v u2 hij hv hu2
      · obtain ⟨g2, h4, h5, h6⟩ := rwz_block (h.row j u2 _ hu2 (List.getElem?_eq_getElem (by rw [← h.len]; exact (List.getElem?_eq_some_iff.1 hu2).1)))
        rw [h4]
        intro e
        have := hf g2 e
        omega
    · rw [List.getElem?_set_ne h1i] at hu1
      by_cases h2i : k = j
      · subst h2i
        rw [List.getElem?_set_self hk] at hu2
        cases hu2
        rcases hf with hf | hf
        · rw [hf]
          exact h.ap i k u1 v hij hu1 hv
        · obtain ⟨g2, h4, h5, h6⟩ := rwz_block (h.row i u1 _ hu1 (List.getElem?_eq_getElem (by rw [← h.len]; exact (List.getElem?_eq_some_iff.1 hu1).1)))
          rw [h4]
          intro e
          have := hf g2 e.symm
          omega
      · rw [List.getElem?_set_ne h2i] at hu2
        exact h.ap i j u1 u2 hij hu1 hu2
/-- A new key, at the end. -/
theorem Grp.push (h : Grp B W b Ls V) (hk : k = Ls.length) (hg : W.grownBy W1 none) (hr : RwZ B W1 v' zs') (hf : ∀ g, v'.ownBlock = some g → W.heap.size ≤ g) :
    ∃ W2, (Instr.mapUpdate 66 (.map (some b)) (.int .i64 (k : Int)) v').run Try.prog W1 = .ok () W2 ∧ Grp B W2 b (Ls ++ [zs']) (V ++ [v']) ∧ W1.grownBy W2 (some b) := by
  obtain ⟨es, clock, h1, h2, h3⟩ := h.map
  have hblt := (Array.getElem?_eq_some_iff.1 h1).1
  have hlt := h.lt
  have hb1 : W1.heap[b]? = some (.map es clock) := (hg.block b hblt (by simp)).trans h1
  have hl : es.toList.length = k := by
    have := congrArg List.length h3
    rw [List.length_map, h.len] at this
    omega
  have hrun := update_push hb1 h2 (k := k) (by omega) v'
  have hVk : V.length = k := by rw [h.len, hk]
  refine ⟨_, hrun, ⟨⟨_, clock + 1, World.putObj_heap_same (Array.getElem?_eq_some_iff.1 hb1).1, ?_, ?_⟩, by simp [h.len], fun i u zs hu hz => ?_, fun i j u1 u2 hij hu1 hu2 => ?_, h.lt⟩, grownBy_putObj' W1 b _⟩
  · intro i x hx
    rw [Array.toList_push] at hx
    rcases Nat.lt_or_ge i es.toList.length with hi | hi
    · rw [List.getElem?_append_left hi] at hx
      exact h2 i x hx
    · rw [List.getElem?_append_right hi] at hx
      have hi0 : i - es.toList.length = 0 := by
        have := (List.getElem?_eq_some_iff.1 hx).1
        simp at this
        simpa using this
      rw [hi0] at hx
      simp at hx
      subst hx
      have : i = k := by omega
      rw [this, Nat.zero_add]
  · rw [Array.toList_push, List.map_append, h3]
    rfl
  · rcases Nat.lt_or_ge i k with hi | hi
    · rw [List.getElem?_append_left (by omega)] at hu hz
      have hu0 := h.row i u zs hu hz
      obtain ⟨g2, h4, h5, h6⟩ := rwz_block hu0
      refine hu0.kept fun g hgb => ?_
      rw [h4] at hgb
      cases hgb
      rw [World.putObj_heap_other (by omega)]
      exact hg.block g2 h6 (by simp)
    · have hi0 : i = k := by
        have := (List.getElem?_eq_some_iff.1 hu).1
        simp at this
        omega
      subst hi0
      rw [List.getElem?_append_right (by omega)] at hu hz
      simp [hVk, ← hk] at hu hz
      subst hu
      subst hz
      refine hr.kept fun g hgb => ?_
      obtain ⟨g2, h4, h5, _⟩ := rwz_block hr
      rw [hgb] at h4
      cases h4
      exact World.putObj_heap_other (by omega)
  · have old : ∀ (i : Nat) (u : Value), i < k → (V ++ [v'])[i]? = some u → V[i]? = some u ∧ ∃ g, u.ownBlock = some g ∧ g < W.heap.size := fun i u hi hu => by
      rw [List.getElem?_append_left (by omega)] at hu
      obtain ⟨g2, h4, h5, h6⟩ := rwz_block (h.row i u _ hu (List.getElem?_eq_getElem (by omega)))
      exact ⟨hu, g2, h4, h6⟩
    have new : ∀ (i : Nat) (u : Value), ¬ i < k → (V ++ [v'])[i]? = some u → i = k ∧ u = v' := fun i u hi hu => by
      have := (List.getElem?_eq_some_iff.1 hu).1
      simp at this
      have hik : i = k := by omega
      rw [List.getElem?_append_right (by omega)] at hu
      rw [hik, hVk] at hu
      simp at hu
      exact ⟨hik, hu.symm⟩
    by_cases hi : i < k
    · obtain ⟨q1, g1, q2, q3⟩ := old i u1 hi hu1
      by_cases hj : j < k
      · exact h.ap i j u1 u2 hij q1 (old j u2 hj hu2).1
      · obtain ⟨_, rfl⟩ := new j u2 hj hu2
        rw [q2]
        intro e
        have := hf g1 e.symm
        omega
    · obtain ⟨hik, rfl⟩ := new i u1 hi hu1
      by_cases hj : j < k
      · obtain ⟨q1, g1, q2, q3⟩ := old j u2 hj hu2
        rw [q2]
        intro e
        have := hf g1 e
        omega
      · obtain ⟨hjk, _⟩ := new j u2 hj hu2
        omega
end
theorem wpList_app_z {ops : Array Oper} {rest : List Oper} {o : Oper} {a : Act} {w : World} {Q : Exit → Act → World → Prop} (hgd : o.guard = none) (s x : Operand) (ho : o.op = .call { callee := .builtin .append, args := #[s, x], argTypes := #[23, 23] })
    (B : Nat) (v : Value) (zs : List Int) (g1 : Nat) (z : Int) (hs : a.eval s = v) (hx : a.eval x = .slice (some ⟨g1, 0, none⟩) 1 1) (hv : (v = .slice none 0 0 ∧ zs = []) ∨ RwZ B w v zs) (hc : w.cell? ⟨g1, 0, none⟩ = some (.int .i64 z)) (hl : zs.length ≤ 1048576) (hB : B ≤ w.heap.size)
    (h : ∀ v' w', RwZ B w' v' (zs ++ [z]) → w.grownBy w' v.ownBlock → (v'.ownBlock = v.ownBlock ∨ v'.ownBlock = some w.heap.size) → wpList Try.prog ops Q rest (a.put o.dst v') w') : wpList Try.prog ops Q (o :: rest) a w := by
  obtain ⟨v', w', hr, h2, h3, h4⟩ := app_z w B o.type v zs hv g1 z hc hl hB
  refine wpList_plain hgd fun K hK => ?_
  unfold Oper.wp execOp
  simp only [ho, resolve, invoke, builtin, Sem.run_bind, Sem.run_pure, Result.andThen_ok, List.map_toArray, List.map_cons, List.map_nil, hs, hx, hr]
  exact hK _ _ (h v' w' h2 h3 h4)

/-- How many levels the first j events have. -/
def kN (ev : Nat → Ev) (j : Nat) : Nat := (mostTo ev j + 1).toNat
def gLv (ev : Nat → Ev) (j l : Nat) : List Nat := (List.range j).filter fun x => decide (lev ev x = l)
def grpL (ev : Nat → Ev) (j : Nat) : List (List Int) := (List.range (kN ev j)).map fun l => natI (gLv ev j l)
theorem lvTo_step (f : Nat → Nat) (ev : Nat → Ev) (j : Nat) : ∀ k, lvTo f ev j k = 0 ∨ ∃ i, i < k ∧ f i + 1 = lvTo f ev j k
  | 0 => .inl rfl
  | k + 1 => by
    rw [lvTo]
    split
    · rcases Nat.le_total (lvTo f ev j k) (f k + 1) with h | h
      · exact .inr ⟨k, by omega, by omega⟩
      · rcases lvTo_step f ev j k with h2 | ⟨i, h2, h3⟩
        · omega
        · exact .inr ⟨i, by omega, by omega⟩
    · rcases lvTo_step f ev j k with h2 | ⟨i, h2, h3⟩
      · exact .inl h2
      · exact .inr ⟨i, by omega, h3⟩
theorem mostTo_ge (ev : Nat → Ev) {i j : Nat} (h : i < j) : (lev ev i : Int) ≤ mostTo ev j := by
  induction j with
  | zero => omega
  | succ j ih =>
    rw [mostTo]
    rcases Nat.lt_or_ge i j with h1 | h1
    · have := ih h1
      omega
    · obtain rfl : i = j := by omega
      omega
theorem lev_kN (ev : Nat → Ev) (j : Nat) : lev ev j ≤ kN ev j := by
  unfold kN
  rcases lvTo_step (lev ev) ev j j with h | ⟨i, h1, h2⟩
  · rw [← lev_eq] at h
    omega
  · rw [← lev_eq] at h2
    have := mostTo_ge ev h1
    omega
theorem kN_step (ev : Nat → Ev) (j : Nat) : kN ev (j + 1) = max (kN ev j) (lev ev j + 1) := by
  unfold kN
  rw [mostTo]
  have := mostTo_le ev j
  omega
theorem gLv_empty (ev : Nat → Ev) {j l : Nat} (h : kN ev j ≤ l) : gLv ev j l = [] := by
  unfold gLv
  rw [List.filter_eq_nil_iff]
  intro x hx
  have h1 := mostTo_ge ev (List.mem_range.1 hx)
  unfold kN at h
  simp
  omega
theorem gLv_yes (ev : Nat → Ev) (j : Nat) : gLv ev (j + 1) (lev ev j) = gLv ev j (lev ev j) ++ [j] := by simp [gLv, List.range_succ, List.filter_append]
theorem gLv_no (ev : Nat → Ev) {j l : Nat} (h : lev ev j ≠ l) : gLv ev (j + 1) l = gLv ev j l := by simp [gLv, List.range_succ, List.filter_append, h]
theorem gLv_length (ev : Nat → Ev) (j l : Nat) : (gLv ev j l).length ≤ j := by
  have := List.length_filter_le (fun x => decide (lev ev x = l)) (List.range j)
  rwa [List.length_range] at this
theorem grpL_length (ev : Nat → Ev) (j : Nat) : (grpL ev j).length = kN ev j := by simp [grpL]
theorem grpL_at (ev : Nat → Ev) {j l : Nat} (h : l < kN ev j) : (grpL ev j)[l]? = some (natI (gLv ev j l)) := by simp [grpL, h]
theorem grpL_old (ev : Nat → Ev) {j : Nat} (h : lev ev j < kN ev j) : grpL ev (j + 1) = (grpL ev j).set (lev ev j) (natI (gLv ev j (lev ev j)) ++ [(j : Int)]) := by
  have hk : kN ev (j + 1) = kN ev j := by rw [kN_step]; omega
  apply List.ext_getElem?
  intro i
  by_cases hi : i < kN ev j
  · rw [grpL_at ev (by rw [hk]; exact hi)]
    by_cases he : lev ev j = i
    · subst he
      rw [List.getElem?_set_self (by rw [grpL_length]; exact h), gLv_yes]
      simp [natI]
    · rw [List.getElem?_set_ne he, grpL_at ev hi, gLv_no ev he]
  · rw [List.getElem?_eq_none (by rw [grpL_length, hk]; omega), List.getElem?_eq_none (by rw [List.length_set, grpL_length]; omega)]
theorem grpL_new (ev : Nat → Ev) {j : Nat} (h : lev ev j = kN ev j) : grpL ev (j + 1) = grpL ev j ++ [[(j : Int)]] := by
  have hk : kN ev (j + 1) = kN ev j + 1 := by rw [kN_step]; omega
  unfold grpL
  rw [hk, List.range_succ, List.map_append]
  congr 1
  · refine List.map_congr_left fun l hl => ?_
    rw [gLv_no ev (by have := List.mem_range.1 hl; omega)]
  · rw [List.map_cons, List.map_nil, ← h, gLv_yes, gLv_empty ev (by omega)]
    rfl
end Go.Proofs.Ytbamocalhojmeaa
