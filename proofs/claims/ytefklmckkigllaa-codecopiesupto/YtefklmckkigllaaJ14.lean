/- Joined texts of the proof. -/
import Derived.Test.YtefklmckkigllaaJ10
import Derived.Test.YtefklmckkigllaaJ11
import Derived.Test.YtefklmckkigllaaJ13
import Derived.Laws.AppendOwnNone
import Derived.Laws.CopyRow
import Derived.Test.YtefklmckkigllaaJ1
import Derived.Test.YtefklmckkigllaaJ8

/- Codes copied: rows that lie in blocks of a kind, blocks that may be written, the builtin copy. -/
namespace Go.Proofs.Ytefklmckkigllaa
open Go.RowKit
set_option linter.unusedVariables false

/-- A block of cells that may be written. -/
def Soft (w : World) (g : Nat) : Prop := ∃ t cs, At t w g cs
theorem Soft.keep {w w' : World} {g : Nat} (h : w'.heap[g]? = w.heap[g]?) (s : Soft w g) : Soft w' g := by
  obtain ⟨t, cs, hA⟩ := s
  exact ⟨t, cs, h.trans hA⟩
/-- From A on, and it may be written. -/
def Fr (A : Nat) (w : World) (k : Nat) : Prop := A ≤ k ∧ Soft w k
theorem Fr.mono {A B : Nat} (h : A ≤ B) {w : World} {k : Nat} (f : Fr B w k) : Fr A w k := ⟨Nat.le_trans h f.1, f.2⟩
theorem Soft.lt {w : World} {g : Nat} (s : Soft w g) : g < w.heap.size := by
  obtain ⟨t, cs, hA⟩ := s
  exact hA.lt

/-- A row lies in a block of a kind. -/
def RowL {α : Type} (S : Nat → Prop) (a : Option Addr) (ks : List α) : Prop := ks = [] ∨ ∃ g o, a = some ⟨g, o, none⟩ ∧ S g
theorem RowL.mono {α : Type} {S T : Nat → Prop} {a : Option Addr} {ks : List α} (h : RowL S a ks) (hS : ∀ k, S k → T k) : RowL T a ks := by
  rcases h with h | ⟨g, o, ha, hg⟩
  · exact .inl h
  · exact .inr ⟨g, o, ha, hS g hg⟩
theorem RowG.stay {α : Type} {cells : α → List Value} {n : Nat} {P Q : α → Prop} {S : Nat → Prop} {B B' : Nat} {w w' : World} {a : Option Addr} {c : Nat} {ks : List α} (h : RowG cells n P B w a c ks) (hu : RowL S a ks) (hB : B ≤ B') (hk : ∀ k, S k → k < B → w'.heap[k]? = w.heap[k]?) (hP : ∀ k ∈ ks, P k → Q k) : RowG cells n Q B' w' a c ks := by
  obtain ⟨h1, h2, h | ⟨g, o, ha, hg, hr⟩⟩ := h
  · exact ⟨h1, h2, .inl h⟩
  · rcases hu with hu | ⟨g', o', ha', hg'⟩
    · exact ⟨h1, h2, .inl hu⟩
    · rw [ha] at ha'
      cases ha'
      refine ⟨h1, h2, .inr ⟨g, o, ha, by omega, fun i v hv => ⟨fun j x hj => ?_, hP v (List.mem_of_getElem? hv) (hr i v hv).2⟩⟩⟩
      rw [World.cell?_of_block (w := w) (hk g hg' hg)]
      exact (hr i v hv).1 j x hj
theorem RowG.lies {α : Type} {cells : α → List Value} {n : Nat} {P : α → Prop} {S T : Nat → Prop} {B : Nat} {w : World} {a : Option Addr} {c : Nat} {ks : List α} (h : RowG cells n P B w a c ks) (hu : RowL S a ks) (hS : ∀ k, S k → k < B → T k) : RowL T a ks := by
  obtain ⟨h1, h2, h | ⟨g, o, ha, hg, hr⟩⟩ := h
  · exact .inl h
  · rcases hu with hu | ⟨g', o', ha', hg'⟩
    · exact .inl hu
    · rw [ha] at ha'
      cases ha'
      exact .inr ⟨g, o, ha, hS g hg' hg⟩
def NT.Lies (S : Nat → Prop) (x : NT) : Prop := RowL S x.a x.nd.code
def BT.Lies (S : Nat → Prop) (x : BT) : Prop := RowL S x.a1 x.locals ∧ RowL S x.a2 x.nodes ∧ ∀ n ∈ x.nodes, n.Lies S
def CT.Lies (S : Nat → Prop) (x : CT) : Prop := RowL S x.a1 x.shared ∧ RowL S x.a2 x.bodies ∧ ∀ n ∈ x.bodies, n.Lies S
theorem NT.Lies.mono {S T : Nat → Prop} {x : NT} (h : x.Lies S) (hS : ∀ k, S k → T k) : x.Lies T := RowL.mono h hS
theorem BT.Lies.mono {S T : Nat → Prop} {x : BT} (h : x.Lies S) (hS : ∀ k, S k → T k) : x.Lies T := ⟨h.1.mono hS, h.2.1.mono hS, fun n hn => (h.2.2 n hn).mono hS⟩
theorem CT.Lies.mono {S T : Nat → Prop} {x : CT} (h : x.Lies S) (hS : ∀ k, S k → T k) : x.Lies T := ⟨h.1.mono hS, h.2.1.mono hS, fun n hn => (h.2.2 n hn).mono hS⟩
theorem NT.In.stay {S : Nat → Prop} {B B' : Nat} {w w' : World} {x : NT} (h : x.In B w) (hu : x.Lies S) (hB : B ≤ B') (hk : ∀ k, S k → k < B → w'.heap[k]? = w.heap[k]?) : x.In B' w' := ⟨RowG.stay h.1 hu hB hk fun _ _ h => h, h.2⟩
theorem BT.In.stay {S : Nat → Prop} {B B' : Nat} {w w' : World} {x : BT} (h : x.In B w) (hu : x.Lies S) (hB : B ≤ B') (hk : ∀ k, S k → k < B → w'.heap[k]? = w.heap[k]?) : x.In B' w' :=
  ⟨RowG.stay h.1 hu.1 hB hk fun _ _ h => h, h.2.1, RowG.stay h.2.2 hu.2.1 hB hk fun n hn h => h.stay (hu.2.2 n hn) hB hk⟩
theorem CT.In.stay {S : Nat → Prop} {B B' : Nat} {w w' : World} {x : CT} (h : x.In B w) (hu : x.Lies S) (hB : B ≤ B') (hk : ∀ k, S k → k < B → w'.heap[k]? = w.heap[k]?) : x.In B' w' :=
  ⟨RowG.stay h.1 hu.1 hB hk fun _ _ h => h, h.2.1, RowG.stay h.2.2 hu.2.1 hB hk fun n hn h => h.stay (hu.2.2 n hn) hB hk⟩
theorem NT.In.lies {S T : Nat → Prop} {B : Nat} {w : World} {x : NT} (h : x.In B w) (hu : x.Lies S) (hS : ∀ k, S k → k < B → T k) : x.Lies T := RowG.lies h.1 hu hS
theorem BT.In.lies {S T : Nat → Prop} {B : Nat} {w : World} {x : BT} (h : x.In B w) (hu : x.Lies S) (hS : ∀ k, S k → k < B → T k) : x.Lies T := ⟨RowG.lies h.1 hu.1 hS, RowG.lies h.2.2 hu.2.1 hS, fun n hn => NT.In.lies (RowG.all h.2.2 n hn) (hu.2.2 n hn) hS⟩
theorem CT.In.lies {S T : Nat → Prop} {B : Nat} {w : World} {x : CT} (h : x.In B w) (hu : x.Lies S) (hS : ∀ k, S k → k < B → T k) : x.Lies T := ⟨RowG.lies h.1 hu.1 hS, RowG.lies h.2.2 hu.2.1 hS, fun n hn => BT.In.lies (RowG.all h.2.2 n hn) (hu.2.2 n hn) hS⟩

/-- A whole block of such cells is a row. -/
theorem rowOfAt {α : Type} {cl : α → List Value} {n : Nat} (hlen : ∀ y, (cl y).length = n) {P : α → Prop} {t : TypeId} {B g : Nat} {w : World} {ks : List α} {tl : List Value} (h : At t w g (ks.flatMap cl ++ tl)) (hB : g < B) (h1 : ks.length ≤ 1048576) (c : Nat) (hc : ks.length ≤ c) (hP : ∀ k ∈ ks, P k) : RowG cl n P B w (some ⟨g, 0, none⟩) c ks := by
  refine ⟨h1, hc, .inr ⟨g, 0, rfl, hB, fun i k hk => ⟨fun j v hj => ?_, hP k (List.mem_of_getElem? hk)⟩⟩⟩
  have e := flat_cells_at cl n hlen ks i k hk j v hj
  rw [h.cell, Nat.zero_add, List.getElem?_append_left (List.getElem?_eq_some_iff.1 e).1]
  exact e
/-- The cells of a row, one behind the other. -/
theorem row_flat {α : Type} {cl : α → List Value} {n : Nat} (hlen : ∀ y, (cl y).length = n) (hn : 0 < n) {w : World} {g o : Nat} {ks : List α} (h : ∀ i k, ks[i]? = some k → w.rangeAt g (o + i * n) (cl k)) : ∀ j v, (ks.flatMap cl)[j]? = some v → w.cell? ⟨g, o + j, none⟩ = some v := by
  intro j v hj
  have hjl := (List.getElem?_eq_some_iff.1 hj).1
  rw [flat_cells cl n hlen] at hjl
  have hq : j / n < ks.length := (Nat.div_lt_iff_lt_mul hn).2 hjl
  have hr : j % n < n := Nat.mod_lt _ hn
  have e : j / n * n + j % n = j := by rw [Nat.mul_comm]; exact Nat.div_add_mod j n
  have hk : ks[j / n]? = some (ks[j / n]) := List.getElem?_eq_getElem hq
  have hv : (cl (ks[j / n]))[j % n]? = some ((cl (ks[j / n]))[j % n]'(by rw [hlen]; exact hr)) := List.getElem?_eq_getElem (by rw [hlen]; exact hr)
  have e2 := flat_cells_at cl n hlen ks _ _ hk _ _ hv
  rw [e, hj] at e2
  have e3 := h _ _ hk _ _ hv
  rw [show o + j / n * n + j % n = o + j by omega] at e3
  rw [e3]
  exact e2.symm

theorem run_copy_rowN {P : Program} (w : World) (dT sT ty elem : TypeId) (g n size : Nat) (a : Addr) (sCap : Nat) (cur : Array Value) (t : TypeId) (cs : List Value)
    (hu : P.underlying dT = some (.slice elem)) (hs : (P.info? elem).map (·.size) = some size)
    (hg : w.heap[g]? = some (.cells cur t (0, 0))) (hn : cs.length = n * size)
    (hsrc : ∀ j v, cs[j]? = some v → w.cell? (a.add j) = some v) (hfit : cs.length = cur.size) (h1 : ∀ v ∈ cs, v.oneCell' = true) :
    (Builtin.copy_ #[dT, sT] ty #[.slice (some ⟨g, 0, none⟩) n n, .slice (some a) n sCap]).run P w = .ok (goInt n) (w.setRow g cs.toArray) := by
  have hl := run_loadCells_list (P := P) w a cs hsrc
  have hst := run_storeCells_at P g 0 t cs 0 cur w hg (by simpa using Nat.le_of_eq hfit) h1
  have hd : cur.toList.drop cs.length = [] := by apply List.eq_nil_of_length_eq_zero; rw [List.length_drop, Array.length_toList]; omega
  simp only [Nat.zero_add, List.take_zero, List.nil_append, hd, List.append_nil] at hst
  cases hq : P.info? elem with
  | none => simp [hq] at hs
  | some i =>
    have hi : i.size = size := by simpa [hq] using hs
    rw [hn] at hl
    simp [Builtin.copy_, run_underlying hu, Builtin.lenOf, Builtin.firstCells, sizeOf, typeInfo, hq, hi, hl, hst]
/-- 'copy' of a whole row into a new one of its length. -/
theorem wpList_copy_all {ops : Array Oper} {rest : List Oper} {o : Oper} {a : Act} {w : World} {Q : Exit → Act → World → Prop} (hgd : o.guard = none) (d s : Operand) (T E : TypeId) (size : Nat)
    (ho : o.op = .call { callee := .builtin .copy, args := #[d, s], argTypes := #[T, T] }) (hu : Try.prog.underlying T = some (.slice E)) (hs : (Try.prog.info? E).map (·.size) = some size)
    (g n sCap : Nat) (ad : Addr) (hd : a.eval d = .slice (some ⟨g, 0, none⟩) n n) (hx : a.eval s = .slice (some ad) n sCap) (cur cs : List Value) (hg : At E w g cur) (hn : cs.length = n * size) (hc : cur.length = n * size)
    (hsrc : ∀ j v, cs[j]? = some v → w.cell? (ad.add j) = some v) (h1 : ∀ v ∈ cs, v.oneCell' = true)
    (h : ∀ w', At E w' g cs → But g w w' → w'.heap.size = w.heap.size → wpList Try.prog ops Q rest (a.put o.dst (goInt n)) w') : wpList Try.prog ops Q (o :: rest) a w := by
  refine wpList_plain hgd fun K hK => ?_
  have hrun := run_copy_rowN (P := Try.prog) w T T o.type E g n size ad sCap cur.toArray E cs hu hs hg hn hsrc (by simp; omega) h1
  unfold Oper.wp
  simp [execOp, ho, resolve, invoke, builtin, hd, hx, hrun, Result.andThen]
  exact hK _ _ (h _ (setRow_heap w g _ _ E _ hg) ⟨rfl, rfl, rfl, by simp, fun k _ hn => setRow_other w g k _ hn⟩ (by simp))
/-- A row is made, its block known. -/
theorem wpList_make_at {ops : Array Oper} {rest : List Oper} {o : Oper} {a : Act} {w : World} {Q : Exit → Act → World → Prop} (hgd : o.guard = none) (l c : Operand) (t : TypeId) (ho : o.op = .makeSlice t l c) (e : TypeId) (z : Value) (size bytes : Nat) (ht : Try.prog.underlying t = some (.slice e)) (hinfo : (Try.prog.info? e).map (fun i => (i.zero, i.size, i.bytes)) = some (some z, size, bytes))
    (n : Nat) (hl : a.eval l = .int .i64 (n : Int)) (hc : a.eval c = .int .i64 (n : Int)) (hb : bytes * n ≤ 281474976710656) (h63 : n ≤ 9223372036854775807)
    (h : ∀ w' cs, At e w' w.heap.size cs → cs.length = n * size → Below w.heap.size w w' → wpList Try.prog ops Q rest (a.put o.dst (.slice (some ⟨w.heap.size, 0, none⟩) n n)) w') :
    wpList Try.prog ops Q (o :: rest) a w := by
  obtain ⟨i, hi, hzz⟩ := Option.map_eq_some_iff.1 hinfo
  simp only [Prod.mk.injEq] at hzz
  obtain ⟨hz, hs, hbb⟩ := hzz
  have hb' : (i.bytes : Int) * (n : Int) ≤ 281474976710656 := by
    have h : ((i.bytes * n : Nat) : Int) ≤ 281474976710656 := by rw [hbb]; omega
    rwa [Int.natCast_mul] at h
  have hr := run_make (P := Try.prog) w t e i z ht hi hz .i64 .i64 n n (by omega) (Int.le_refl _) hb' (by omega)
  refine wpList_plain hgd fun K hK' => ?_
  unfold Oper.wp
  simp [execOp, ho, hl, hc, hr, Result.andThen]
  refine hK' _ _ (h _ (madeCells z.cells (n * i.size)).toList (_root_.Go.heap_alloc_new w _) ?_ ((Below.refl _ w).alloc (Nat.le_refl _) _))
  rw [Array.length_toList, size_madeCells, hs]
end Go.Proofs.Ytefklmckkigllaa

/- Fresh lists: make, then copy. -/
namespace Go.Proofs.Ytefklmckkigllaa
open Go.RowKit
set_option linter.unusedVariables false

/-- What a fresh list is. -/
def FreshP {α : Type} (cl : α → List Value) (E : TypeId) (xs : List α) (w : World) (r : Ending) (w' : World) : Prop :=
  ∃ (a' : Option Addr) (c' : Nat), r = .returned (.slice a' xs.length c') ∧ Below w.heap.size w w' ∧ (xs = [] ∧ a' = none ∧ c' = 0 ∨ ∃ g, a' = some ⟨g, 0, none⟩ ∧ c' = xs.length ∧ w.heap.size ≤ g ∧ At E w' g (xs.flatMap cl))
theorem one_flat {α : Type} {cl : α → List Value} (h : ∀ y, ∀ x ∈ cl y, x.oneCell' = true) (xs : List α) : ∀ v ∈ xs.flatMap cl, v.oneCell' = true := by
  intro v hv
  obtain ⟨y, -, hy⟩ := List.mem_flatMap.1 hv
  exact h y v hy

set_option maxRecDepth 100000 in
set_option maxHeartbeats 1600000 in
theorem fresh20_any (B : Nat) (xs : List Vl) (a : Option Addr) (c : Nat) (w : World) (h : RowVl B w a c xs) (hBw : B ≤ w.heap.size) : Calls Try.prog 20 #[.slice a xs.length c] w (FreshP Vl.cells 35 xs w) := by
  obtain ⟨n, hn⟩ : ∃ n, Hid (n = xs.length) := ⟨_, (rfl : xs.length = _)⟩
  have hl := h.1
  have HR : Hid (RowVl B w a c xs) := h
  rw [← hn.out] at hl ⊢
  have HP : Hid (∀ r w', (∃ (a' : Option Addr) (c' : Nat), r = .returned (.slice a' n c') ∧ Below w.heap.size w w' ∧ (xs = [] ∧ a' = none ∧ c' = 0 ∨ ∃ g, a' = some ⟨g, 0, none⟩ ∧ c' = n ∧ w.heap.size ≤ g ∧ At 35 w' g (xs.flatMap Vl.cells))) → FreshP Vl.cells 35 xs w r w') := fun r w' q => by
    unfold FreshP
    rw [← hn.out]
    exact q
  clear h
  cases a with
  | none =>
    have hx : Hid (xs = []) := by
      obtain ⟨_, _, h | ⟨g, o, h, _⟩⟩ := HR.out
      · exact h
      · cases h
    have hn0 : Hid (n = 0) := by show _ = _; rw [hn.out, hx.out]; rfl
    clear HR
    have hnil := fun u => Lib.run_eql_slice_nil (P := Try.prog) u 22 35 none n c 0 0 Try.underlying22
    go_enter Try.func20, Try.ntmps20
    go_wp2_with fail
    go_ret
    exact HP.out _ _ ⟨none, 0, by rw [hn0.out]; rfl, Below.refl _ _, .inl ⟨hx.out, rfl, rfl⟩⟩
  | some ad =>
    have hnil := fun u => Lib.run_eql_slice_nil (P := Try.prog) u 22 35 (some ad) n c 0 0 Try.underlying22
    have HX : Hid (∀ u : World, Below w.heap.size w u → ∀ j v, (xs.flatMap Vl.cells)[j]? = some v → u.cell? (ad.add j) = some v) := fun u hu j v hj => by
      obtain ⟨_, _, h | ⟨g, o, h, _, hr⟩⟩ := HR.out.old (Old.of_below hu hBw)
      · rw [h] at hj; simp at hj
      · cases h
        rw [Addr.add_mid]
        exact row_flat (n := 2) (fun _ => rfl) (by decide) (fun i k hk => (hr i k hk).1) j v hj
    have hfl : Hid ((xs.flatMap Vl.cells).length = n * 2) := by show _ = _; rw [flat_cells _ 2 (fun _ => rfl), hn.out]
    clear HR
    go_enter Try.func20, Try.ntmps20
    go_wp2_with (first
      | ((with_reducible show wpList _ _ _ _ _ _); refine wpList_make_at rfl (.tmp 7) (.tmp 7) 22 rfl 35 _ 2 16 Try.underlying22 f35 n rfl rfl (by omega) (by omega) ?_; intro w1 cs1 hA1 hc1 hb1; refine Hid.out ?_))
    refine hidU ?_
    have H1 : Hid (At 35 w1 w.heap.size cs1 ∧ cs1.length = n * 2 ∧ Below w.heap.size w w1) := ⟨hA1, hc1, hb1⟩
    clear hA1 hc1 hb1
    go_wp2_with (first
      | ((with_reducible show wpList _ _ _ _ _ _); refine wpList_copy_all rfl (.tmp 9) (.tmp 10) 22 35 2 rfl Try.underlying22 i35 w.heap.size n c ad rfl rfl cs1 (xs.flatMap Vl.cells) H1.out.1 hfl.out H1.out.2.1 (HX.out w1 H1.out.2.2) (one_flat Vl.one xs) ?_; intro w2 hA2 hb2 hs2; clear hs2; refine Hid.out ?_))
    refine hidU ?_
    have H2 : Hid (At 35 w2 w.heap.size (xs.flatMap Vl.cells) ∧ Below w.heap.size w w2) := ⟨hA2, hb2.below H1.out.2.2 (Nat.le_refl _) H1.out.2.2.size⟩
    clear hA2 hb2
    go_wp2_with fail
    go_ret
    exact HP.out _ _ ⟨_, _, rfl, H2.out.2, .inr ⟨_, rfl, rfl, Nat.le_refl _, H2.out.1⟩⟩

set_option maxRecDepth 100000 in
set_option maxHeartbeats 1600000 in
theorem fresh21_any (B : Nat) (xs : List BT) (a : Option Addr) (c : Nat) (w : World) (h : RowBT B w a c xs) (hBw : B ≤ w.heap.size) : Calls Try.prog 21 #[.slice a xs.length c] w (FreshP BT.cells 45 xs w) := by
  obtain ⟨n, hn⟩ : ∃ n, Hid (n = xs.length) := ⟨_, (rfl : xs.length = _)⟩
  have hl := h.1
  have HR : Hid (RowBT B w a c xs) := h
  rw [← hn.out] at hl ⊢
  have HP : Hid (∀ r w', (∃ (a' : Option Addr) (c' : Nat), r = .returned (.slice a' n c') ∧ Below w.heap.size w w' ∧ (xs = [] ∧ a' = none ∧ c' = 0 ∨ ∃ g, a' = some ⟨g, 0, none⟩ ∧ c' = n ∧ w.heap.size ≤ g ∧ At 45 w' g (xs.flatMap BT.cells))) → FreshP BT.cells 45 xs w r w') := fun r w' q => by
    unfold FreshP
    rw [← hn.out]
    exact q
  clear h
  cases a with
  | none =>
    have hx : Hid (xs = []) := by
      obtain ⟨_, _, h | ⟨g, o, h, _⟩⟩ := HR.out
      · exact h
      · cases h
    have hn0 : Hid (n = 0) := by show _ = _; rw [hn.out, hx.out]; rfl
    clear HR
    have hnil := fun u => Lib.run_eql_slice_nil (P := Try.prog) u 23 45 none n c 0 0 Try.underlying23
    go_enter Try.func21, Try.ntmps21
    go_wp2_with fail
    go_ret
    exact HP.out _ _ ⟨none, 0, by rw [hn0.out]; rfl, Below.refl _ _, .inl ⟨hx.out, rfl, rfl⟩⟩
  | some ad =>
    have hnil := fun u => Lib.run_eql_slice_nil (P := Try.prog) u 23 45 (some ad) n c 0 0 Try.underlying23
    have HX : Hid (∀ u : World, Below w.heap.size w u → ∀ j v, (xs.flatMap BT.cells)[j]? = some v → u.cell? (ad.add j) = some v) := fun u hu j v hj => by
      obtain ⟨_, _, h | ⟨g, o, h, _, hr⟩⟩ := HR.out.old (Old.of_below hu hBw)
      · rw [h] at hj; simp at hj
      · cases h
        rw [Addr.add_mid]
        exact row_flat (n := 3) (fun _ => rfl) (by decide) (fun i k hk => (hr i k hk).1) j v hj
    have hfl : Hid ((xs.flatMap BT.cells).length = n * 3) := by show _ = _; rw [flat_cells _ 3 (fun _ => rfl), hn.out]
    clear HR
    go_enter Try.func21, Try.ntmps21
    go_wp2_with (first
      | ((with_reducible show wpList _ _ _ _ _ _); refine wpList_make_at rfl (.tmp 7) (.tmp 7) 23 rfl 45 _ 3 56 Try.underlying23 f45 n rfl rfl (by omega) (by omega) ?_; intro w1 cs1 hA1 hc1 hb1; refine Hid.out ?_))
    refine hidU ?_
    have H1 : Hid (At 45 w1 w.heap.size cs1 ∧ cs1.length = n * 3 ∧ Below w.heap.size w w1) := ⟨hA1, hc1, hb1⟩
    clear hA1 hc1 hb1
    go_wp2_with (first
      | ((with_reducible show wpList _ _ _ _ _ _); refine wpList_copy_all rfl (.tmp 9) (.tmp 10) 23 45 3 rfl Try.underlying23 i45 w.heap.size n c ad rfl rfl cs1 (xs.flatMap BT.cells) H1.out.1 hfl.out H1.out.2.1 (HX.out w1 H1.out.2.2) (one_flat BT.one xs) ?_; intro w2 hA2 hb2 hs2; clear hs2; refine Hid.out ?_))
    refine hidU ?_
    have H2 : Hid (At 45 w2 w.heap.size (xs.flatMap BT.cells) ∧ Below w.heap.size w w2) := ⟨hA2, hb2.below H1.out.2.2 (Nat.le_refl _) H1.out.2.2.size⟩
    clear hA2 hb2
    go_wp2_with fail
    go_ret
    exact HP.out _ _ ⟨_, _, rfl, H2.out.2, .inr ⟨_, rfl, rfl, Nat.le_refl _, H2.out.1⟩⟩

set_option maxRecDepth 100000 in
set_option maxHeartbeats 1600000 in
theorem fresh22_any (B : Nat) (xs : List NT) (a : Option Addr) (c : Nat) (w : World) (h : RowNT B w a c xs) (hBw : B ≤ w.heap.size) : Calls Try.prog 22 #[.slice a xs.length c] w (FreshP NT.cells 49 xs w) := by
  obtain ⟨n, hn⟩ : ∃ n, Hid (n = xs.length) := ⟨_, (rfl : xs.length = _)⟩
  have hl := h.1
  have HR : Hid (RowNT B w a c xs) := h
  rw [← hn.out] at hl ⊢
  have HP : Hid (∀ r w', (∃ (a' : Option Addr) (c' : Nat), r = .returned (.slice a' n c') ∧ Below w.heap.size w w' ∧ (xs = [] ∧ a' = none ∧ c' = 0 ∨ ∃ g, a' = some ⟨g, 0, none⟩ ∧ c' = n ∧ w.heap.size ≤ g ∧ At 49 w' g (xs.flatMap NT.cells))) → FreshP NT.cells 49 xs w r w') := fun r w' q => by
    unfold FreshP
    rw [← hn.out]
    exact q
  clear h
  cases a with
  | none =>
    have hx : Hid (xs = []) := by
      obtain ⟨_, _, h | ⟨g, o, h, _⟩⟩ := HR.out
      · exact h
      · cases h
    have hn0 : Hid (n = 0) := by show _ = _; rw [hn.out, hx.out]; rfl
    clear HR
    have hnil := fun u => Lib.run_eql_slice_nil (P := Try.prog) u 43 49 none n c 0 0 Try.underlying43
    go_enter Try.func22, Try.ntmps22
    go_wp2_with fail
    go_ret
    exact HP.out _ _ ⟨none, 0, by rw [hn0.out]; rfl, Below.refl _ _, .inl ⟨hx.out, rfl, rfl⟩⟩
  | some ad =>
    have hnil := fun u => Lib.run_eql_slice_nil (P := Try.prog) u 43 49 (some ad) n c 0 0 Try.underlying43
    have HX : Hid (∀ u : World, Below w.heap.size w u → ∀ j v, (xs.flatMap NT.cells)[j]? = some v → u.cell? (ad.add j) = some v) := fun u hu j v hj => by
      obtain ⟨_, _, h | ⟨g, o, h, _, hr⟩⟩ := HR.out.old (Old.of_below hu hBw)
      · rw [h] at hj; simp at hj
      · cases h
        rw [Addr.add_mid]
        exact row_flat (n := 5) (fun _ => rfl) (by decide) (fun i k hk => (hr i k hk).1) j v hj
    have hfl : Hid ((xs.flatMap NT.cells).length = n * 5) := by show _ = _; rw [flat_cells _ 5 (fun _ => rfl), hn.out]
    clear HR
    go_enter Try.func22, Try.ntmps22
    go_wp2_with (first
      | ((with_reducible show wpList _ _ _ _ _ _); refine wpList_make_at rfl (.tmp 7) (.tmp 7) 43 rfl 49 _ 5 56 Try.underlying43 f49 n rfl rfl (by omega) (by omega) ?_; intro w1 cs1 hA1 hc1 hb1; refine Hid.out ?_))
    refine hidU ?_
    have H1 : Hid (At 49 w1 w.heap.size cs1 ∧ cs1.length = n * 5 ∧ Below w.heap.size w w1) := ⟨hA1, hc1, hb1⟩
    clear hA1 hc1 hb1
    go_wp2_with (first
      | ((with_reducible show wpList _ _ _ _ _ _); refine wpList_copy_all rfl (.tmp 9) (.tmp 10) 43 49 5 rfl Try.underlying43 i49 w.heap.size n c ad rfl rfl cs1 (xs.flatMap NT.cells) H1.out.1 hfl.out H1.out.2.1 (HX.out w1 H1.out.2.2) (one_flat NT.one xs) ?_; intro w2 hA2 hb2 hs2; clear hs2; refine Hid.out ?_))
    refine hidU ?_
    have H2 : Hid (At 49 w2 w.heap.size (xs.flatMap NT.cells) ∧ Below w.heap.size w w2) := ⟨hA2, hb2.below H1.out.2.2 (Nat.le_refl _) H1.out.2.2.size⟩
    clear hA2 hb2
    go_wp2_with fail
    go_ret
    exact HP.out _ _ ⟨_, _, rfl, H2.out.2, .inr ⟨_, rfl, rfl, Nat.le_refl _, H2.out.1⟩⟩

set_option maxRecDepth 100000 in
set_option maxHeartbeats 1600000 in
theorem fresh23_any (B : Nat) (xs : List Ir) (a : Option Addr) (c : Nat) (w : World) (h : RowIr B w a c xs) (hBw : B ≤ w.heap.size) : Calls Try.prog 23 #[.slice a xs.length c] w (FreshP Ir.cells 37 xs w) := by
  obtain ⟨n, hn⟩ : ∃ n, Hid (n = xs.length) := ⟨_, (rfl : xs.length = _)⟩
  have hl := h.1
  have HR : Hid (RowIr B w a c xs) := h
  rw [← hn.out] at hl ⊢
  have HP : Hid (∀ r w', (∃ (a' : Option Addr) (c' : Nat), r = .returned (.slice a' n c') ∧ Below w.heap.size w w' ∧ (xs = [] ∧ a' = none ∧ c' = 0 ∨ ∃ g, a' = some ⟨g, 0, none⟩ ∧ c' = n ∧ w.heap.size ≤ g ∧ At 37 w' g (xs.flatMap Ir.cells))) → FreshP Ir.cells 37 xs w r w') := fun r w' q => by
    unfold FreshP
    rw [← hn.out]
    exact q
  clear h
  cases a with
  | none =>
    have hx : Hid (xs = []) := by
      obtain ⟨_, _, h | ⟨g, o, h, _⟩⟩ := HR.out
      · exact h
      · cases h
    have hn0 : Hid (n = 0) := by show _ = _; rw [hn.out, hx.out]; rfl
    clear HR
    have hnil := fun u => Lib.run_eql_slice_nil (P := Try.prog) u 38 37 none n c 0 0 Try.underlying38
    go_enter Try.func23, Try.ntmps23
    go_wp2_with fail
    go_ret
    exact HP.out _ _ ⟨none, 0, by rw [hn0.out]; rfl, Below.refl _ _, .inl ⟨hx.out, rfl, rfl⟩⟩
  | some ad =>
    have hnil := fun u => Lib.run_eql_slice_nil (P := Try.prog) u 38 37 (some ad) n c 0 0 Try.underlying38
    have HX : Hid (∀ u : World, Below w.heap.size w u → ∀ j v, (xs.flatMap Ir.cells)[j]? = some v → u.cell? (ad.add j) = some v) := fun u hu j v hj => by
      obtain ⟨_, _, h | ⟨g, o, h, _, hr⟩⟩ := HR.out.old (Old.of_below hu hBw)
      · rw [h] at hj; simp at hj
      · cases h
        rw [Addr.add_mid]
        exact row_flat (n := 4) (fun _ => rfl) (by decide) (fun i k hk => (hr i k hk).1) j v hj
    have hfl : Hid ((xs.flatMap Ir.cells).length = n * 4) := by show _ = _; rw [flat_cells _ 4 (fun _ => rfl), hn.out]
    clear HR
    go_enter Try.func23, Try.ntmps23
    go_wp2_with (first
      | ((with_reducible show wpList _ _ _ _ _ _); refine wpList_make_at rfl (.tmp 7) (.tmp 7) 38 rfl 37 _ 4 32 Try.underlying38 f37 n rfl rfl (by omega) (by omega) ?_; intro w1 cs1 hA1 hc1 hb1; refine Hid.out ?_))
    refine hidU ?_
    have H1 : Hid (At 37 w1 w.heap.size cs1 ∧ cs1.length = n * 4 ∧ Below w.heap.size w w1) := ⟨hA1, hc1, hb1⟩
    clear hA1 hc1 hb1
    go_wp2_with (first
      | ((with_reducible show wpList _ _ _ _ _ _); refine wpList_copy_all rfl (.tmp 9) (.tmp 10) 38 37 4 rfl Try.underlying38 i37 w.heap.size n c ad rfl rfl cs1 (xs.flatMap Ir.cells) H1.out.1 hfl.out H1.out.2.1 (HX.out w1 H1.out.2.2) (one_flat Ir.one xs) ?_; intro w2 hA2 hb2 hs2; clear hs2; refine Hid.out ?_))
    refine hidU ?_
    have H2 : Hid (At 37 w2 w.heap.size (xs.flatMap Ir.cells) ∧ Below w.heap.size w w2) := ⟨hA2, hb2.below H1.out.2.2 (Nat.le_refl _) H1.out.2.2.size⟩
    clear hA2 hb2
    go_wp2_with fail
    go_ret
    exact HP.out _ _ ⟨_, _, rfl, H2.out.2, .inr ⟨_, rfl, rfl, Nat.le_refl _, H2.out.1⟩⟩
end Go.Proofs.Ytefklmckkigllaa

/- Regions that draw their order and end in stores to what they read: a condition on the world that holds till the first of these stores comes up. -/
namespace Go.Proofs.Ytefklmckkigllaa
open Go Go.RowKit
set_option linter.unusedVariables false

section
variable {P : Program} {ops : Array Oper} {Q : Exit → Act → World → Prop} {md : Region.Mode} {S : World → Prop} {St : List Nat}

/-- As long as none of the stores has come up, S holds. -/
def Hold (S : World → Prop) (St : List Nat) (listed : Array Bool) (w : World) : Prop := (∀ s ∈ St, listed.getD s true = false) → S w
def wpAnyS (P : Program) (md : Region.Mode) (ops : Array Oper) (Q : Exit → Act → World → Prop) (S : World → Prop) (St : List Nat) : Nat → Array Bool → Act → World → Prop
  | 0, listed, a, w => Region.ready md ops listed = [] ∧ Q .normal a w
  | fuel + 1, listed, a, w =>
    (Region.ready md ops listed = [] → Q .normal a w) ∧
    ∀ i ∈ Region.ready md ops listed, wpOp P ops Q i (fun a' w' => Hold S St (listed.setIfInBounds i true) w' ∧ wpAnyS P md ops Q S St fuel (listed.setIfInBounds i true) a' w') a w
theorem wpAny_of_S : ∀ (fuel : Nat) (listed : Array Bool) (a : Act) (w : World), wpAnyS P md ops Q S St fuel listed a w → wpAny P md ops Q fuel listed a w
  | 0, _, _, _, h => h
  | fuel + 1, _, _, _, h => ⟨h.1, fun i hi => wpOp_mono (fun a' w' h' => wpAny_of_S fuel _ a' w' h'.2) (h.2 i hi)⟩

theorem hold_less {i j : Nat} {listed : Array Bool} {w : World} (hi : i ∉ St) (h : Hold S St ((listed.setIfInBounds i true).setIfInBounds j true) w) : Hold S St (listed.setIfInBounds j true) w := fun hs => h fun s hm => by
  have hsi : i ≠ s := fun e => hi (e ▸ hm)
  have := hs s hm
  by_cases hj : j = s
  · subst hj
    rw [Array.setIfInBounds_comm _ _ hsi, getD_set_ne true hsi]
    exact this
  · rw [getD_set_ne true hj] at this
    rw [getD_set_ne true hj, getD_set_ne true hsi]
    exact this

theorem wpAnyS_first {i : Nat} {oi : Oper} {v : Value} (hi : ops[i]? = some oi) (hsel : ∀ (j : Nat) (o : Oper) cs b, ops[j]? = some o → o.op ≠ .select cs b)
    (hQ : ∀ c a w, Q (.panic c) (a.put oi.dst v) w → Q (.panic c) a w) (hiS : i ∉ St) (Inv : Array Bool → Prop) (S0 : World → Prop)
    (hInv : ∀ listed j, Inv listed → listed.getD i true = false → j ∈ Region.ready md ops listed → j ≠ i → Inv (listed.setIfInBounds j true))
    (hY : ∀ listed w, Inv listed → Hold S St listed w → S0 w) :
    ∀ (fuel : Nat) (listed : Array Bool) (a : Act) (w : World),
      (∀ j oj, ops[j]? = some oj → j ≠ i → listed.getD j true = false → (∀ e ∈ oj.after, Region.binds md e = true → e.on ≠ i) → oi.apart ops oj = true) →
      i ∈ Region.ready md ops listed → Inv listed → YieldsIf P ops S0 oi v a → Hold S St listed w →
      Hold S St (listed.setIfInBounds i true) w → wpAnyS P md ops Q S St fuel (listed.setIfInBounds i true) (a.put oi.dst v) w → wpAnyS P md ops Q S St (fuel + 1) listed a w := by
  intro fuel
  induction fuel with
  | zero =>
    intro listed a w _ hr hv hy hS hSi H
    refine ⟨fun h => (by rw [h] at hr; cases hr), fun j hj => ?_⟩
    by_cases hji : j = i
    · subst hji; exact hy.wpOp hi (hY _ _ hv hS) ⟨hSi, H⟩
    · have := ready_mono hj hji
      rw [H.1] at this
      cases this
  | succ fuel ih =>
    intro listed a w hfree hr hv hy hS hSi H
    refine ⟨fun h => (by rw [h] at hr; cases hr), fun j hj => ?_⟩
    by_cases hji : j = i
    · subst hji; exact hy.wpOp hi (hY _ _ hv hS) ⟨hSi, H⟩
    · have h1 := H.2 j (ready_mono hj hji)
      obtain ⟨hjun, oj, hoj, hall⟩ := mem_ready.1 hj
      have hnot : ∀ e ∈ oj.after, Region.binds md e = true → e.on ≠ i := fun e he hb heq => by
        have h1 := hall e he hb
        have h0 := (mem_ready.1 hr).1
        rw [heq] at h1
        rcases Nat.lt_or_ge i listed.size with h' | h'
        · simp [h'] at h0 h1; rw [h0] at h1; cases h1
        · simp [Array.getElem?_eq_none h'] at h1
      have h2 := wpOp_putIf hoj (hfree j oj hoj hji hjun hnot) (fun cs b => hsel i oi cs b hi) (fun cs b => hsel j oj cs b hoj) hQ hy h1
      have hfree' : ∀ k ok, ops[k]? = some ok → k ≠ i → (listed.setIfInBounds j true).getD k true = false →
          (∀ e ∈ ok.after, Region.binds md e = true → e.on ≠ i) → oi.apart ops ok = true := fun k ok hk hki hun hno => by
        refine hfree k ok hk hki ?_ hno
        by_cases hjk : j = k
        · subst hjk; exact hjun
        · rw [getD_set_ne true hjk] at hun; exact hun
      refine wpOp_mono (fun a' w' h3 => ?_) h2
      have hh := hold_less hiS h3.2.1
      refine ⟨hh, ih (listed.setIfInBounds j true) a' w' hfree' (ready_mono hr (Ne.symm hji)) (hInv _ _ hv (mem_ready.1 hr).1 hj hji) h3.1 hh ?_ ?_⟩
      · rw [Array.setIfInBounds_comm _ _ hji]
        exact h3.2.1
      · rw [Array.setIfInBounds_comm _ _ hji]
        exact h3.2.2

/-- Number i is taken first: it yields v in whatever world. -/
theorem wpAnyS_pure {i : Nat} {oi : Oper} {v : Value} {fuel : Nat} {listed : Array Bool} {a : Act} {w : World} (hi : ops[i]? = some oi)
    (hs : Region.noSelect ops = true) (hf : Region.free md ops listed i = true) (hr : (Region.ready md ops listed).contains i = true) (hiS : St.contains i = false)
    (hQ : ∀ c a w, Q (.panic c) (a.put oi.dst v) w → Q (.panic c) a w) (hy : YieldsIf P ops (fun _ => True) oi v a) (hS : Hold S St listed w)
    (h : Hold S St (listed.setIfInBounds i true) w → wpAnyS P md ops Q S St fuel (listed.setIfInBounds i true) (a.put oi.dst v) w) : wpAnyS P md ops Q S St (fuel + 1) listed a w := by
  have hn : i ∉ St := fun hm => by rw [List.contains_iff_mem.2 hm] at hiS; cases hiS
  have h2 : Hold S St (listed.setIfInBounds i true) w := fun q => hS fun s hm => by have := q s hm; rwa [getD_set_ne true (show i ≠ s from fun e => hn (e ▸ hm))] at this
  exact wpAnyS_first hi (Region.noSelect_spec hs) hQ hn (fun _ => True) (fun _ => True) (fun _ _ _ _ _ _ => trivial) (fun _ _ _ _ => trivial) fuel listed a w (Region.free_spec hi hf) (by simpa using hr) trivial hy hS h2 (h h2)
/-- Number i is taken first: it yields v where S holds, and the stores wait for it. -/
theorem wpAnyS_take {i : Nat} {oi : Oper} {v : Value} {fuel : Nat} {listed : Array Bool} {a : Act} {w : World} (Wt : List Nat) (hi : ops[i]? = some oi)
    (hs : Region.noSelect ops = true) (hf : Region.free md ops listed i = true) (hr : (Region.ready md ops listed).contains i = true) (hiS : St.contains i = false)
    (hW : (Wt.all fun j => ((ops[j]?).map fun o => o.after.any fun e => Region.binds md e && (e.on == i || Wt.contains e.on)) == some true) = true) (hSW : (St.all fun j => Wt.contains j) = true) (hun : (Wt.all fun j => listed.getD j true == false) = true)
    (hQ : ∀ c a w, Q (.panic c) (a.put oi.dst v) w → Q (.panic c) a w) (hy : YieldsIf P ops S oi v a) (hS : Hold S St listed w)
    (h : Hold S St (listed.setIfInBounds i true) w → wpAnyS P md ops Q S St fuel (listed.setIfInBounds i true) (a.put oi.dst v) w) : wpAnyS P md ops Q S St (fuel + 1) listed a w := by
  have hn : i ∉ St := fun hm => by rw [List.contains_iff_mem.2 hm] at hiS; cases hiS
  have h2 : Hold S St (listed.setIfInBounds i true) w := fun q => hS fun s hm => by have := q s hm; rwa [getD_set_ne true (show i ≠ s from fun e => hn (e ▸ hm))] at this
  refine wpAnyS_first hi (Region.noSelect_spec hs) hQ hn (fun l => ∀ j ∈ Wt, l.getD j true = false) S ?_ ?_ fuel listed a w (Region.free_spec hi hf) (by simpa using hr) ?_ hy hS h2 (h h2)
  · intro l j hl hil hj hji k hk
    by_cases hjk : j = k
    · subst hjk
      exfalso
      have h1 := List.all_eq_true.1 hW j hk
      rw [beq_iff_eq] at h1
      obtain ⟨o, ho, h3⟩ := Option.map_eq_some_iff.1 h1
      obtain ⟨e, he, h4⟩ := Array.any_eq_true'.1 h3
      rw [Bool.and_eq_true, Bool.or_eq_true] at h4
      obtain ⟨hjun, oj, hoj, hall⟩ := mem_ready.1 hj
      rw [ho] at hoj
      cases hoj
      have h5 := hall e he h4.1
      have h6 : l.getD e.on true = false := by
        rcases h4.2 with q | q
        · rw [beq_iff_eq] at q; rw [q]; exact hil
        · exact hl _ (List.contains_iff_mem.1 q)
      rcases Nat.lt_or_ge e.on l.size with h' | h'
      · simp [h'] at h5 h6; rw [h6] at h5; cases h5
      · simp [Array.getElem?_eq_none h'] at h5
    · rw [getD_set_ne true hjk]; exact hl k hk
  · intro l w' hl hh
    exact hh fun s hm => hl s (List.contains_iff_mem.1 (List.all_eq_true.1 hSW s hm))
  · intro j hj
    have := List.all_eq_true.1 hun j hj
    rwa [beq_iff_eq] at this

def AllReadyS (P : Program) (md : Region.Mode) (ops : Array Oper) (Q : Exit → Act → World → Prop) (S : World → Prop) (St : List Nat) (fuel : Nat) (listed : Array Bool) (a : Act) (w : World) (rs : List Nat) : Prop :=
  ∀ i ∈ rs, wpOp P ops Q i (fun a' w' => Hold S St (listed.setIfInBounds i true) w' ∧ wpAnyS P md ops Q S St fuel (listed.setIfInBounds i true) a' w') a w
theorem AllReadyS.nil {fuel : Nat} {listed : Array Bool} {a : Act} {w : World} : AllReadyS P md ops Q S St fuel listed a w [] := fun _ h => by cases h
theorem AllReadyS.cons {fuel : Nat} {listed : Array Bool} {a : Act} {w : World} {i : Nat} {o : Oper} {rs : List Nat} (ho : ops[i]? = some o)
    (h : ∀ K' : Act → World → Prop, Shut (∀ a w, Hold S St (listed.setIfInBounds i true) w → (Hold S St (listed.setIfInBounds i true) w → wpAnyS P md ops Q S St fuel (listed.setIfInBounds i true) a w) → K' a w) → if Region.wanted o (yielded ops a.tmps) = true then Oper.wp P o a w K' Q else K' (a.put o.dst undef) w)
    (hs : AllReadyS P md ops Q S St fuel listed a w rs) : AllReadyS P md ops Q S St fuel listed a w (i :: rs) := fun j hj => by
  rcases List.mem_cons.1 hj with rfl | hj
  · exact wpOp_step ho (fun K' hK => h K' (fun a w hS hW => hK a w ⟨hS, hW hS⟩))
  · exact hs j hj
theorem wpAnyS_ready {rs : List Nat} {fuel : Nat} {listed : Array Bool} {a : Act} {w : World} (hr : Region.ready md ops listed = rs) (hne : rs ≠ [])
    (h : AllReadyS P md ops Q S St fuel listed a w rs) : wpAnyS P md ops Q S St (fuel + 1) listed a w := ⟨fun h0 => absurd (hr ▸ h0) hne, hr ▸ h⟩
theorem wpAnyS_done {listed : Array Bool} {a : Act} {w : World} (hr : Region.ready md ops listed = []) (h : Q .normal a w) :
    ∀ fuel, wpAnyS P md ops Q S St fuel listed a w
  | 0 => ⟨hr, h⟩
  | _ + 1 => ⟨fun _ => h, by rw [hr]; simp⟩
theorem wp_region_S {id : Nat} {a : Act} {w : World} (hm : P.follows .mixedOrders = true) (hS : S w.drew)
    (h : Hold S St (Array.replicate ops.size false) w.drew → wpAnyS P .any ops Q S St ops.size (Array.replicate ops.size false) a w.drew) : (Code.region id ops true).wp P Q a w :=
  wp_region_any hm (wpAny_of_S _ _ _ _ (h fun _ => hS))
/-- A store has come up: nothing more is to be shown. -/
theorem Hold.over {s : Nat} {listed : Array Bool} {w : World} (h : s ∈ St) (hl : listed.getD s true = true) : Hold S St listed w := fun q => by
  have := q s h
  rw [hl] at this
  cases this
theorem Hold.of {listed : Array Bool} {w : World} (h : S w) : Hold S St listed w := fun _ => h
end
end Go.Proofs.Ytefklmckkigllaa

/- Stores in regions that draw their order; rows changed in place. -/
namespace Go.Proofs.Ytefklmckkigllaa
open Go.RowKit
set_option linter.unusedVariables false

section
variable {P : Program} {o : Oper} {a : Act} {w : World} {K : Act → World → Prop} {Q : Exit → Act → World → Prop}
theorem wp_store_one (ty : TypeId) (x y : Operand) (ho : o.op = .store ty x y)
    (g off : Nat) (v : Value) (hx : a.eval x = .pointer (some ⟨g, off, none⟩)) (hy : a.eval y = v)
    (t : TypeId) (old : List Value) (hg : At t w g old) (hold : off + 1 ≤ old.length) (hi : (P.info? ty).map (·.size) = some 1) (hc : v.cells = #[v]) (h1 : v.oneCell' = true)
    (h : ∀ w', At t w' g (old.set off v) → But g w w' → w'.heap.size = w.heap.size → K (a.put o.dst undef) w') : o.wp P a w K Q := by
  have := h _ (hg.set off v) ((But.refl g w).setCell off v) (by simp)
  unfold Oper.wp execOp
  simp only [ho, hx, hy, Instr.storeAt, Instr.sureAddr, Sem.run_bind, Sem.run_pure, Result.andThen_ok, run_storeVar_cell w g off ty v (hg.there off 1 hold) hi hc h1]
  exact this
end
/-- A cell of a row is changed in place. -/
theorem flat_set {α : Type} (cl : α → List Value) (n : Nat) (hlen : ∀ y, (cl y).length = n) : ∀ (L : List α) (i : Nat) (x x' : α) (j : Nat) (v : Value), L[i]? = some x → j < n → (cl x).set j v = cl x' → (L.flatMap cl).set (i * n + j) v = (L.set i x').flatMap cl
  | [], i, x, x', j, v, h, _, _ => by simp at h
  | y :: r, 0, x, x', j, v, h, hj, e => by
    simp at h
    subst h
    rw [List.flatMap_cons, Nat.zero_mul, Nat.zero_add, List.set_append_left _ _ (by rw [hlen]; exact hj), e, List.set_cons_zero, List.flatMap_cons]
  | y :: r, i + 1, x, x', j, v, h, hj, e => by
    have ih := flat_set cl n hlen r i x x' j v (by simpa using h) hj e
    rw [List.flatMap_cons, List.set_append_right _ _ (by rw [hlen, Nat.add_mul]; omega), hlen, show (i + 1) * n + j - n = i * n + j by rw [Nat.add_mul]; omega, ih, List.set_cons_succ, List.flatMap_cons]
theorem At.flat {α : Type} {cl : α → List Value} {n : Nat} (hlen : ∀ y, (cl y).length = n) {t : TypeId} {w : World} {g : Nat} {L : List α} (h : At t w g (L.flatMap cl)) {i : Nat} {x : α} (hx : L[i]? = some x) {j : Nat} {v : Value} (hv : (cl x)[j]? = some v) : w.cell? ⟨g, i * n + j, none⟩ = some v := by
  rw [h.cell]
  exact flat_cells_at cl n hlen L i x hx j v hv
theorem flat_in {α : Type} {cl : α → List Value} {n : Nat} (hlen : ∀ y, (cl y).length = n) {L : List α} {i : Nat} {x : α} (hx : L[i]? = some x) {j : Nat} (hj : j < n) : i * n + j + 1 ≤ (L.flatMap cl).length := by
  rw [flat_cells cl n hlen]
  have h := (List.getElem?_eq_some_iff.1 hx).1
  have : (i + 1) * n ≤ L.length * n := Nat.mul_le_mul_right _ h
  rw [Nat.add_mul] at this
  omega
/-- Elements ahead of i have the data of ks; the others are ks's own. -/
def Till {α δ : Type} (dat : α → δ) (G : α → Prop) (i : Nat) (L ks : List α) : Prop :=
  L.length = ks.length ∧ (∀ (q : Nat) (y k : α), q < i → L[q]? = some y → ks[q]? = some k → dat y = dat k ∧ G y) ∧ ∀ q, i ≤ q → L[q]? = ks[q]?
theorem Till.start {α δ : Type} {dat : α → δ} {G : α → Prop} (ks : List α) : Till dat G 0 ks ks := ⟨rfl, fun q _ _ h => by omega, fun _ _ => rfl⟩
theorem Till.imp {α δ : Type} {dat : α → δ} {G H : α → Prop} {i : Nat} {L ks : List α} (h : Till dat G i L ks) (hG : ∀ y, G y → H y) : Till dat H i L ks := ⟨h.1, fun q y k hq hy hk => ⟨(h.2.1 q y k hq hy hk).1, hG y (h.2.1 q y k hq hy hk).2⟩, h.2.2⟩
theorem Till.next {α δ : Type} {dat : α → δ} {G : α → Prop} {i : Nat} {L ks : List α} (h : Till dat G i L ks) {x y : α} (hx : ks[i]? = some x) (hd : dat y = dat x) (hG : G y) : Till dat G (i + 1) (L.set i y) ks := by
  have hl : i < L.length := by rw [h.1]; exact (List.getElem?_eq_some_iff.1 hx).1
  refine ⟨by rw [List.length_set]; exact h.1, fun q z k hq hz hk => ?_, fun q hq => ?_⟩
  · by_cases e : q = i
    · subst e
      rw [List.getElem?_set_self hl] at hz
      rw [hx] at hk
      cases hz
      cases hk
      exact ⟨hd, hG⟩
    · rw [List.getElem?_set_ne (Ne.symm e)] at hz
      exact h.2.1 q z k (by omega) hz hk
  · rw [List.getElem?_set_ne (by omega)]
    exact h.2.2 q (by omega)
theorem Till.done {α δ : Type} {dat : α → δ} {G : α → Prop} {i : Nat} {L ks : List α} (h : Till dat G i L ks) (hi : ks.length ≤ i) : L.map dat = ks.map dat ∧ ∀ y ∈ L, G y := by
  constructor
  · apply List.ext_getElem?
    intro q
    rw [List.getElem?_map, List.getElem?_map]
    by_cases hq : q < ks.length
    · rw [List.getElem?_eq_getElem hq, List.getElem?_eq_getElem (by rw [h.1]; exact hq)]
      simp only [Option.map_some]
      rw [(h.2.1 q _ _ (by omega) (List.getElem?_eq_getElem _) (List.getElem?_eq_getElem hq)).1]
    · rw [List.getElem?_eq_none (by rw [h.1]; omega), List.getElem?_eq_none (by omega)]
  · intro y hy
    obtain ⟨q, hq⟩ := List.getElem?_of_mem hy
    have hl := (List.getElem?_eq_some_iff.1 hq).1
    rw [h.1] at hl
    exact (h.2.1 q y _ (by omega) hq (List.getElem?_eq_getElem hl)).2
end Go.Proofs.Ytefklmckkigllaa
