/- Proved: CodeBack, the second form. -/
import Derived.Test.YtefklmckkigllaaBkJ
import Derived.Test.YtefklmckkigllaaCd
import Derived.Test.YtefklmckkigllaaRows
import Derived.ProofKit
import Derived.OpenShut
import Derived.Deep.Slices
import Derived.WalkKit
import Derived.ShutString
import Derived.ChangeOld
import Derived.Below
/-! text OpA -/
namespace Go.Proofs.Ytefklmckkigllaa
open Go.ChangeShapes Go.WideShapes Go.ChangeAt Go.RowKit
set_option linter.unusedVariables false

theorem bulk_one {H : Type} (d : DataW H) : 1 ≤ Rows.uptoBulk d := by
  cases d with
  | lit l => cases l <;> simp [Rows.uptoBulk]
  | nil => simp [Rows.uptoBulk]
  | ptr d => simp [Rows.uptoBulk]
  | slice elems spare => simp [Rows.uptoBulk]
  | agg parts => simp [Rows.uptoBulk]
  | iface t d => simp [Rows.uptoBulk]
  | map entries => simp [Rows.uptoBulk]
  | held h => simp [Rows.uptoBulk]
theorem bulk_mem {H : Type} {d : DataW H} {l : List (DataW H)} (h : d ∈ l) : Rows.uptoBulk d ≤ Rows.uptoBulkAll l := by
  induction l with
  | nil => cases h
  | cons x r ih =>
    simp only [Rows.uptoBulkAll]
    rcases List.mem_cons.1 h with rfl | h
    · omega
    · have := ih h; omega
theorem bulk_len {H : Type} (l : List (DataW H)) : l.length ≤ Rows.uptoBulkAll l := by
  induction l with
  | nil => simp
  | cons x r ih => have := bulk_one x; simp only [Rows.uptoBulkAll, List.length_cons]; omega

/-- For each of a list one that fits. -/
theorem choose_list {α β : Type} : ∀ (l : List β) (R : Nat → β → α → Prop), (∀ i b, l[i]? = some b → ∃ a, R i b a) → ∃ vs : List α, vs.length = l.length ∧ ∀ i b a, l[i]? = some b → vs[i]? = some a → R i b a
  | [], R, h => ⟨[], rfl, fun i b a hb => by simp at hb⟩
  | x :: r, R, h => by
    obtain ⟨a, ha⟩ := h 0 x rfl
    obtain ⟨vs, hl, hv⟩ := choose_list r (fun i => R (i + 1)) (fun i b hb => h (i + 1) b (by simpa using hb))
    refine ⟨a :: vs, by simp [hl], fun i b c hb hc => ?_⟩
    cases i with
    | zero => simp at hb hc; subst hb hc; exact ha
    | succ i => exact hv i b c (by simpa using hb) (by simpa using hc)

theorem sum_bulk {α H : Type} (wt : α → Nat) : ∀ (vs : List α) (l : List (DataW H)), vs.length = l.length → (∀ (i : Nat) (v : α) (d : DataW H), vs[i]? = some v → l[i]? = some d → wt v ≤ Rows.uptoBulk d) → (vs.map wt).sum ≤ Rows.uptoBulkAll l
  | [], [], _, _ => by simp
  | [], d :: r, h, _ => by simp at h
  | v :: vs, [], h, _ => by simp at h
  | v :: vs, d :: r, h, hw => by
    have h0 := hw 0 v d rfl rfl
    have := sum_bulk wt vs r (by simpa using h) (fun i a b ha hb => hw (i + 1) a b (by simpa using ha) (by simpa using hb))
    simp only [List.map_cons, List.sum_cons, Rows.uptoBulkAll]
    omega

section
variable {H : Type} {enc : TypeId × Value → H} {w : World} {sp : Nat → Bool} {held : Bool}

/-- A row that came in. -/
theorem open_row {α : Type} (t e k : Nat) (hk : 0 < k) (ht : Try.prog.underlying t = some (.slice e)) (hc : Try.prog.cellsOf e = k) (wt : α → Nat) (G : α → List Value → Prop)
    (fuel : Nat) (cs : List Value) (x : DataW H × List MemPlace) (h : DataW.trod enc Try.prog w 0 sp held fuel t cs = some x) (N : Nat) (hN : Rows.uptoBulk x.1 ≤ N)
    (ho : ∀ n, n < fuel → ∀ (cs' : List Value) (y : DataW H × List MemPlace), DataW.trod enc Try.prog w 0 sp held n e cs' = some y → Rows.uptoBulk y.1 ≤ N → ∃ v : α, G v cs' ∧ wt v ≤ Rows.uptoBulk y.1) :
    ∃ (a : Option Addr) (c : Nat) (vs : List α), cs = [.slice a vs.length c] ∧ vs.length ≤ N ∧ vs.length ≤ c ∧ (vs.map wt).sum + 1 ≤ Rows.uptoBulk x.1 ∧ (vs = [] ∨ ∃ g o, a = some ⟨g, o, none⟩ ∧ g < w.heap.size ∧ ∀ (i : Nat) (v : α), vs[i]? = some v → ∃ cs', w.rangeAt g (o + i * k) cs' ∧ G v cs') := by
  rcases DataW.trod_slice ht h with ⟨rfl, rfl⟩ | ⟨ad, len, cap, elems, rest, n, hf, rfl, rfl, hb, hl, hm, hlen, hel, -, -⟩
  · exact ⟨none, 0, [], rfl, by simp, by simp, by simp [Rows.uptoBulk], .inl rfl⟩
  · have hbk : Rows.uptoBulkAll (elems.map (·.1)) + 1 ≤ Rows.uptoBulk (DataW.slice (elems.map (·.1)) (rest.map (·.1))) := by
      simp only [Rows.uptoBulk]
      omega
    rw [hc] at hel
    obtain ⟨vs, hvl, hv⟩ := choose_list elems (fun i b (v : α) => ∃ cs', w.cells? 0 (ad.add (i * k)) k = some cs' ∧ G v cs' ∧ wt v ≤ Rows.uptoBulk b.1) (fun i b hib => by
      have hi : i < len := by
        have := (List.getElem?_eq_some_iff.1 hib).1
        omega
      have h0 := hel i hi
      rw [hib] at h0
      obtain ⟨cs', h1, h2⟩ := Option.bind_eq_some_iff.1 h0
      have hbb : Rows.uptoBulk b.1 ≤ N := by
        have := bulk_mem (List.mem_map_of_mem (f := (·.1)) (List.mem_of_getElem? hib))
        simp only at hN
        omega
      obtain ⟨v, g1, g2⟩ := ho n (by omega) cs' b h2 hbb
      exact ⟨v, cs', h1, g1, g2⟩)
    have hlv : vs.length = len := by rw [hvl, hlen]
    have hsum : (vs.map wt).sum ≤ Rows.uptoBulkAll (elems.map (·.1)) := sum_bulk wt vs _ (by simp [hvl]) (fun i v d h1 h2 => by
      rw [List.getElem?_map] at h2
      obtain ⟨b, hb1, rfl⟩ := Option.map_eq_some_iff.1 h2
      exact (hv i b v hb1 h1).choose_spec.2.2)
    have hln := bulk_len (elems.map (·.1))
    rw [List.length_map] at hln
    refine ⟨some ad, cap, vs, by rw [hlv], by simp only at hN; omega, by omega, Nat.le_trans (Nat.add_le_add_right hsum 1) hbk, ?_⟩
    cases vs with
    | nil => exact .inl rfl
    | cons v0 vr =>
      right
      obtain ⟨g, o, spot⟩ := ad
      have hcell : ∀ (i : Nat) (v : α), (v0 :: vr)[i]? = some v → ∃ cs', w.cells? 0 ((⟨g, o, spot⟩ : Addr).add (i * k)) k = some cs' ∧ G v cs' := fun i v hi => by
        have hlt := (List.getElem?_eq_some_iff.1 hi).1
        obtain ⟨cs', h1, h2, -⟩ := hv i (elems[i]'(by omega)) v (List.getElem?_eq_getElem _) hi
        exact ⟨cs', h1, h2⟩
      obtain ⟨cs0, hc0, -⟩ := hcell 0 v0 rfl
      obtain ⟨_, hl0, hcc⟩ := World.cells?_some hc0
      have hv0 : ∃ z, w.cell? ⟨g, o, spot⟩ = some z := by
        have := hcc 0 hk
        rw [Nat.zero_mul] at this
        have hcs : 0 < cs0.length := by omega
        rw [List.getElem?_eq_getElem hcs] at this
        exact ⟨_, by simpa [Addr.add] using this⟩
      obtain ⟨z, hz⟩ := hv0
      have hspot : spot = none := World.cell?_spot hz
      subst hspot
      refine ⟨g, o, rfl, lt_of_cell hz, fun i v hi => ?_⟩
      obtain ⟨cs', h1, h2⟩ := hcell i v hi
      refine ⟨cs', fun j u hj => ?_, h2⟩
      obtain ⟨_, hl1, hcc1⟩ := World.cells?_some h1
      have hjl := (List.getElem?_eq_some_iff.1 hj).1
      have := hcc1 j (by omega)
      rw [hj, Addr.add_mid, Addr.add_mid] at this
      exact this
end
end Go.Proofs.Ytefklmckkigllaa

/-! text OpB -/
namespace Go.Proofs.Ytefklmckkigllaa
open Go.ChangeShapes Go.WideShapes Go.ChangeAt Go.RowKit
set_option linter.unusedVariables false

theorem c32 : Try.prog.cellsOf 32 = 1 := by kernel_rfl
theorem c33 : Try.prog.cellsOf 33 = 1 := by kernel_rfl
theorem c31 : Try.prog.cellsOf 31 = 1 := by kernel_rfl
theorem c3 : Try.prog.cellsOf 3 = 1 := by kernel_rfl
theorem c35 : Try.prog.cellsOf 35 = 2 := by kernel_rfl
theorem c37 : Try.prog.cellsOf 37 = 4 := by kernel_rfl
theorem c38 : Try.prog.cellsOf 38 = 1 := by kernel_rfl
theorem c22 : Try.prog.cellsOf 22 = 1 := by kernel_rfl
theorem c43 : Try.prog.cellsOf 43 = 1 := by kernel_rfl
theorem c23 : Try.prog.cellsOf 23 = 1 := by kernel_rfl
theorem c49 : Try.prog.cellsOf 49 = 5 := by kernel_rfl
theorem c45 : Try.prog.cellsOf 45 = 3 := by kernel_rfl
theorem c25 : Try.prog.cellsOf 25 = 3 := by kernel_rfl
theorem c5 : Try.prog.cellsOf 5 = 1 := by kernel_rfl
theorem len2 {α : Type} : ∀ {l : List α}, l.length = 2 → ∃ a b, l = [a, b]
  | [a, b], _ => ⟨a, b, rfl⟩
theorem len3 {α : Type} : ∀ {l : List α}, l.length = 3 → ∃ a b c, l = [a, b, c]
  | [a, b, c], _ => ⟨a, b, c, rfl⟩
theorem len4 {α : Type} : ∀ {l : List α}, l.length = 4 → ∃ a b c d, l = [a, b, c, d]
  | [a, b, c, d], _ => ⟨a, b, c, d, rfl⟩
theorem len5 {α : Type} : ∀ {l : List α}, l.length = 5 → ∃ a b c d e, l = [a, b, c, d, e]
  | [a, b, c, d, e], _ => ⟨a, b, c, d, e, rfl⟩
theorem u8_of {x : Int} (h : (Lit.int .u8 x).wf = true) : ∃ n : Nat, x = (n : Int) ∧ n < 256 := by
  have h : 0 ≤ x ∧ x ≤ 255 := by simpa [Lit.wf, IntKind.min, IntKind.max, IntKind.signed, IntKind.bits] using h
  exact ⟨x.toNat, by omega, by omega⟩
theorem u64_of {x : Int} (h : (Lit.int .u64 x).wf = true) : ∃ n : Nat, x = (n : Int) ∧ n < 18446744073709551616 := by
  have h : 0 ≤ x ∧ x ≤ 18446744073709551615 := by simpa [Lit.wf, IntKind.min, IntKind.max, IntKind.signed, IntKind.bits] using h
  exact ⟨x.toNat, by omega, by omega⟩
theorem i64_of {x : Int} (h : (Lit.int .i64 x).wf = true) : I64 x := by
  simpa [I64, Lit.wf, IntKind.min, IntKind.max, IntKind.signed, IntKind.bits] using h

section
variable {H : Type} {enc : TypeId × Value → H} {w : World} {sp : Nat → Bool} {held : Bool}

theorem open_vl (fuel : Nat) (cs : List Value) (x : DataW H × List MemPlace) (h : DataW.trod enc Try.prog w 0 sp held fuel 35 cs = some x) : ∃ v : Vl, (cs = v.cells ∧ v.Ok) ∧ 1 ≤ Rows.uptoBulk x.1 := by
  obtain ⟨xs, n, hf, rfl, hl, hlen, hx⟩ := DataW.trod_struct Try.underlying35 h
  rw [c35] at hl
  obtain ⟨z0, z1, rfl⟩ := len2 hl
  obtain ⟨y0, y1, rfl⟩ := len2 (show xs.length = 2 from hlen)
  have f0 := hx 0 { name := "T", type := 32, offset := 0, embedded := false, tag := "", pkgPath := "", byteOffset := 0 } rfl
  dsimp only at f0
  rw [c32] at f0
  have f0 : DataW.trod enc Try.prog w 0 sp held n 32 [z0] = some y0 := f0
  have f1 := hx 1 { name := "Bits", type := 33, offset := 1, embedded := false, tag := "", pkgPath := "", byteOffset := 8 } rfl
  dsimp only at f1
  rw [c33] at f1
  have f1 : DataW.trod enc Try.prog w 0 sp held n 33 [z1] = some y1 := f1
  obtain ⟨i0, e0, -, hw0⟩ := DataW.trod_int Try.underlying32 f0
  obtain ⟨i1, e1, -, hw1⟩ := DataW.trod_int Try.underlying33 f1
  simp at e0 e1
  subst e0 e1
  obtain ⟨tn, rfl, ht⟩ := u8_of hw0
  obtain ⟨bn, rfl, hb⟩ := u64_of hw1
  exact ⟨⟨tn, bn⟩, ⟨rfl, ht, hb⟩, bulk_one _⟩
theorem open_ir (fuel : Nat) (cs : List Value) (x : DataW H × List MemPlace) (h : DataW.trod enc Try.prog w 0 sp held fuel 37 cs = some x) : ∃ v : Ir, (cs = v.cells ∧ v.Ok) ∧ 1 ≤ Rows.uptoBulk x.1 := by
  obtain ⟨xs, n, hf, rfl, hl, hlen, hx⟩ := DataW.trod_struct Try.underlying37 h
  rw [c37] at hl
  obtain ⟨z0, z1, z2, z3, rfl⟩ := len4 hl
  obtain ⟨y0, y1, y2, rfl⟩ := len3 (show xs.length = 3 from hlen)
  have f0 := hx 0 { name := "Op", type := 31, offset := 0, embedded := false, tag := "", pkgPath := "", byteOffset := 0 } rfl
  dsimp only at f0
  rw [c31] at f0
  have f0 : DataW.trod enc Try.prog w 0 sp held n 31 [z0] = some y0 := f0
  have f1 := hx 1 { name := "Arg", type := 3, offset := 1, embedded := false, tag := "", pkgPath := "", byteOffset := 8 } rfl
  dsimp only at f1
  rw [c3] at f1
  have f1 : DataW.trod enc Try.prog w 0 sp held n 3 [z1] = some y1 := f1
  have f2 := hx 2 { name := "Lit", type := 35, offset := 2, embedded := false, tag := "", pkgPath := "", byteOffset := 16 } rfl
  dsimp only at f2
  rw [c35] at f2
  have f2 : DataW.trod enc Try.prog w 0 sp held n 35 [z2, z3] = some y2 := f2
  obtain ⟨i0, e0, -, hw0⟩ := DataW.trod_int Try.underlying31 f0
  obtain ⟨i1, e1, -, hw1⟩ := DataW.trod_int Try.underlying3 f1
  obtain ⟨v, ⟨e2, hv⟩, -⟩ := open_vl _ _ _ f2
  simp [Vl.cells] at e0 e1 e2
  subst e0 e1
  obtain ⟨rfl, rfl⟩ := e2
  obtain ⟨on, rfl, ho⟩ := u8_of hw0
  exact ⟨⟨on, i1, v⟩, ⟨rfl, ho, i64_of hw1, hv⟩, bulk_one _⟩
theorem row_open {α : Type} {cl : α → List Value} {n : Nat} {P : α → Prop} {a : Option Addr} {c : Nat} {ks : List α} (k1 : ks.length ≤ 1048576) (k2 : ks.length ≤ c) (k4 : ks = [] ∨ ∃ g o, a = some ⟨g, o, none⟩ ∧ g < w.heap.size ∧ ∀ (i : Nat) (v : α), ks[i]? = some v → ∃ cs', w.rangeAt g (o + i * n) cs' ∧ (cs' = cl v ∧ P v)) : RowG cl n P w.heap.size w a c ks := by
  refine ⟨k1, k2, ?_⟩
  rcases k4 with k4 | ⟨g, o, ha, hg, hr⟩
  · exact .inl k4
  · refine .inr ⟨g, o, ha, hg, fun i e he => ?_⟩
    obtain ⟨cs', h1, rfl, h3⟩ := hr i e he
    exact ⟨h1, h3⟩
theorem open_nt (fuel : Nat) (cs : List Value) (x : DataW H × List MemPlace) (h : DataW.trod enc Try.prog w 0 sp held fuel 49 cs = some x) (hN : Rows.uptoBulk x.1 ≤ 1048576) : ∃ v : NT, (cs = v.cells ∧ v.In w.heap.size w) ∧ 1 ≤ Rows.uptoBulk x.1 := by
  obtain ⟨xs, n, hf, rfl, hl, hlen, hx⟩ := DataW.trod_struct Try.underlying49 h
  rw [c49] at hl
  obtain ⟨z0, z1, z2, z3, z4, rfl⟩ := len5 hl
  obtain ⟨y0, y1, y2, y3, y4, rfl⟩ := len5 (show xs.length = 5 from hlen)
  have f0 := hx 0 { name := "Code", type := 38, offset := 0, embedded := false, tag := "", pkgPath := "", byteOffset := 0 } rfl
  dsimp only at f0
  rw [c38] at f0
  have f0 : DataW.trod enc Try.prog w 0 sp held n 38 [z0] = some y0 := f0
  have f1 := hx 1 { name := "Kind", type := 3, offset := 1, embedded := false, tag := "", pkgPath := "", byteOffset := 24 } rfl
  dsimp only at f1
  rw [c3] at f1
  have f1 : DataW.trod enc Try.prog w 0 sp held n 3 [z1] = some y1 := f1
  have f2 := hx 2 { name := "Arg", type := 3, offset := 2, embedded := false, tag := "", pkgPath := "", byteOffset := 32 } rfl
  dsimp only at f2
  rw [c3] at f2
  have f2 : DataW.trod enc Try.prog w 0 sp held n 3 [z2] = some y2 := f2
  have f3 := hx 3 { name := "Next", type := 3, offset := 3, embedded := false, tag := "", pkgPath := "", byteOffset := 40 } rfl
  dsimp only at f3
  rw [c3] at f3
  have f3 : DataW.trod enc Try.prog w 0 sp held n 3 [z3] = some y3 := f3
  have f4 := hx 4 { name := "Alt", type := 3, offset := 4, embedded := false, tag := "", pkgPath := "", byteOffset := 48 } rfl
  dsimp only at f4
  rw [c3] at f4
  have f4 : DataW.trod enc Try.prog w 0 sp held n 3 [z4] = some y4 := f4
  obtain ⟨i1, e1, -, hw1⟩ := DataW.trod_int Try.underlying3 f1
  obtain ⟨i2, e2, -, hw2⟩ := DataW.trod_int Try.underlying3 f2
  obtain ⟨i3, e3, -, hw3⟩ := DataW.trod_int Try.underlying3 f3
  obtain ⟨i4, e4, -, hw4⟩ := DataW.trod_int Try.underlying3 f4
  have hbk : Rows.uptoBulk y0.1 ≤ 1048576 := by
    simp only [List.map_cons, List.map_nil, Rows.uptoBulk, Rows.uptoBulkAll] at hN
    omega
  obtain ⟨a1, c1', ks, e0, k1, k2, k3, k4⟩ := open_row 38 37 4 (by decide) Try.underlying38 c37 (fun _ : Ir => 1) (fun (e : Ir) cs' => cs' = e.cells ∧ e.Ok) n _ _ f0 1048576 hbk (fun m hm cs' y hy hby => open_ir m cs' y hy)
  simp at e0 e1 e2 e3 e4
  subst e0 e1 e2 e3 e4
  exact ⟨⟨a1, c1', ⟨ks, i1, i2, i3, i4⟩⟩, ⟨rfl, row_open k1 k2 k4, i64_of hw1, i64_of hw2, i64_of hw3, i64_of hw4⟩, bulk_one _⟩
theorem open_bt (fuel : Nat) (cs : List Value) (x : DataW H × List MemPlace) (h : DataW.trod enc Try.prog w 0 sp held fuel 45 cs = some x) (hN : Rows.uptoBulk x.1 ≤ 1048576) : ∃ v : BT, (cs = v.cells ∧ v.In w.heap.size w) ∧ 1 ≤ Rows.uptoBulk x.1 := by
  obtain ⟨xs, n, hf, rfl, hl, hlen, hx⟩ := DataW.trod_struct Try.underlying45 h
  rw [c45] at hl
  obtain ⟨z0, z1, z2, rfl⟩ := len3 hl
  obtain ⟨y0, y1, y2, rfl⟩ := len3 (show xs.length = 3 from hlen)
  have f0 := hx 0 { name := "Locals", type := 22, offset := 0, embedded := false, tag := "", pkgPath := "", byteOffset := 0 } rfl
  dsimp only at f0
  rw [c22] at f0
  have f0 : DataW.trod enc Try.prog w 0 sp held n 22 [z0] = some y0 := f0
  have f1 := hx 1 { name := "Stack", type := 3, offset := 1, embedded := false, tag := "", pkgPath := "", byteOffset := 24 } rfl
  dsimp only at f1
  rw [c3] at f1
  have f1 : DataW.trod enc Try.prog w 0 sp held n 3 [z1] = some y1 := f1
  have f2 := hx 2 { name := "Nodes", type := 43, offset := 2, embedded := false, tag := "", pkgPath := "", byteOffset := 32 } rfl
  dsimp only at f2
  rw [c43] at f2
  have f2 : DataW.trod enc Try.prog w 0 sp held n 43 [z2] = some y2 := f2
  obtain ⟨i1, e1, -, hw1⟩ := DataW.trod_int Try.underlying3 f1
  have hbk : Rows.uptoBulk y0.1 ≤ 1048576 ∧ Rows.uptoBulk y2.1 ≤ 1048576 := by
    simp only [List.map_cons, List.map_nil, Rows.uptoBulk, Rows.uptoBulkAll] at hN
    omega
  obtain ⟨a1, c1', ks, e0, k1, k2, k3, k4⟩ := open_row 22 35 2 (by decide) Try.underlying22 c35 (fun _ : Vl => 1) (fun (e : Vl) cs' => cs' = e.cells ∧ e.Ok) n _ _ f0 1048576 hbk.1 (fun m hm cs' y hy hby => open_vl m cs' y hy)
  obtain ⟨a2, c2', ns, e2, l1, l2, l3, l4⟩ := open_row 43 49 5 (by decide) Try.underlying43 c49 (fun _ : NT => 1) (fun (e : NT) cs' => cs' = e.cells ∧ e.In w.heap.size w) n _ _ f2 1048576 hbk.2 (fun m hm cs' y hy hby => open_nt m cs' y hy hby)
  simp at e0 e1 e2
  subst e0 e1 e2
  exact ⟨⟨a1, c1', ks, i1, a2, c2', ns⟩, ⟨rfl, row_open k1 k2 k4, i64_of hw1, row_open l1 l2 l4⟩, bulk_one _⟩
theorem open_ct (fuel : Nat) (cs : List Value) (x : DataW H × List MemPlace) (h : DataW.trod enc Try.prog w 0 sp held fuel 25 cs = some x) (hN : Rows.uptoBulk x.1 ≤ 1048576) : ∃ v : CT, (cs = v.cells ∧ v.In w.heap.size w) ∧ 1 ≤ Rows.uptoBulk x.1 := by
  obtain ⟨xs, n, hf, rfl, hl, hlen, hx⟩ := DataW.trod_struct Try.underlying25 h
  rw [c25] at hl
  obtain ⟨z0, z1, z2, rfl⟩ := len3 hl
  obtain ⟨y0, y1, y2, rfl⟩ := len3 (show xs.length = 3 from hlen)
  have f0 := hx 0 { name := "Shared", type := 22, offset := 0, embedded := false, tag := "", pkgPath := "", byteOffset := 0 } rfl
  dsimp only at f0
  rw [c22] at f0
  have f0 : DataW.trod enc Try.prog w 0 sp held n 22 [z0] = some y0 := f0
  have f1 := hx 1 { name := "Mutexes", type := 3, offset := 1, embedded := false, tag := "", pkgPath := "", byteOffset := 24 } rfl
  dsimp only at f1
  rw [c3] at f1
  have f1 : DataW.trod enc Try.prog w 0 sp held n 3 [z1] = some y1 := f1
  have f2 := hx 2 { name := "Bodies", type := 23, offset := 2, embedded := false, tag := "", pkgPath := "", byteOffset := 32 } rfl
  dsimp only at f2
  rw [c23] at f2
  have f2 : DataW.trod enc Try.prog w 0 sp held n 23 [z2] = some y2 := f2
  obtain ⟨i1, e1, -, hw1⟩ := DataW.trod_int Try.underlying3 f1
  have hbk : Rows.uptoBulk y0.1 ≤ 1048576 ∧ Rows.uptoBulk y2.1 ≤ 1048576 := by
    simp only [List.map_cons, List.map_nil, Rows.uptoBulk, Rows.uptoBulkAll] at hN
    omega
  obtain ⟨a1, c1', ks, e0, k1, k2, k3, k4⟩ := open_row 22 35 2 (by decide) Try.underlying22 c35 (fun _ : Vl => 1) (fun (e : Vl) cs' => cs' = e.cells ∧ e.Ok) n _ _ f0 1048576 hbk.1 (fun m hm cs' y hy hby => open_vl m cs' y hy)
  obtain ⟨a2, c2', ns, e2, l1, l2, l3, l4⟩ := open_row 23 45 3 (by decide) Try.underlying23 c45 (fun _ : BT => 1) (fun (e : BT) cs' => cs' = e.cells ∧ e.In w.heap.size w) n _ _ f2 1048576 hbk.2 (fun m hm cs' y hy hby => open_bt m cs' y hy hby)
  simp at e0 e1 e2
  subst e0 e1 e2
  exact ⟨⟨a1, c1', ks, i1, a2, c2', ns⟩, ⟨rfl, row_open k1 k2 k4, i64_of hw1, row_open l1 l2 l4⟩, bulk_one _⟩
theorem open_u8 (fuel : Nat) (cs : List Value) (x : DataW H × List MemPlace) (h : DataW.trod enc Try.prog w 0 sp held fuel 5 cs = some x) : ∃ v : UInt8, cs = [.int .u8 (v.toNat : Int)] ∧ 1 ≤ Rows.uptoBulk x.1 := by
  obtain ⟨z, e, -, hw⟩ := DataW.trod_int Try.underlying5 h
  obtain ⟨n, rfl, hn⟩ := u8_of hw
  exact ⟨UInt8.ofNat n, by rw [e]; simp; omega, bulk_one _⟩
theorem open_by (fuel : Nat) (cs : List Value) (x : DataW H × List MemPlace) (h : DataW.trod enc Try.prog w 0 sp held fuel 42 cs = some x) (hN : Rows.uptoBulk x.1 ≤ 1048576) : ∃ (a : Option Addr) (c : Nat) (bs : List UInt8), cs = [.slice a bs.length c] ∧ bs.length ≤ 1048576 ∧ bs.length ≤ c ∧ Row w a bs := by
  obtain ⟨a1, c1', ks, e0, k1, k2, k3, k4⟩ := open_row 42 5 1 (by decide) Try.underlying42 c5 (fun _ : UInt8 => 1) (fun (e : UInt8) cs' => cs' = [.int .u8 (e.toNat : Int)]) fuel _ _ h 1048576 hN (fun m hm cs' y hy hby => open_u8 m cs' y hy)
  refine ⟨a1, c1', ks, e0, k1, k2, ?_⟩
  rcases k4 with k4 | ⟨g, o, ha, hg, hr⟩
  · exact .inl k4
  · refine .inr ⟨g, o, ha, fun j hj => ?_⟩
    obtain ⟨cs', h1, rfl⟩ := hr j ks[j] (List.getElem?_eq_getElem hj)
    have := h1 0 _ rfl
    simpa [List.getD, List.getElem?_eq_getElem hj] using this
end
end Go.Proofs.Ytefklmckkigllaa

/-! text BackProof -/
namespace Go.Proofs.Ytefklmckkigllaa.codeBack
open Go.ChangeShapes Go.WideShapes Go.ChangeAt Go.RowKit
set_option linter.unusedVariables false

theorem own : ownKnob Try.prog.godebug = none := by kernel_rfl
theorem laidOut : laidOutB Try.prog = true := by kernel_rfl

set_option maxRecDepth 100000 in
theorem open_arg {H : Type} {enc : TypeId × Value → H} {w : World} {sp : Nat → Bool} {held : Bool} {b0 : Nat} {v : Value} {d : DataW H} {ps : List MemPlace} (hval : Value.okWide Try.prog w .any b0 25 v) (hd : DataW.Trod enc Try.prog w 0 sp held 25 v d ps) (hN : Rows.uptoBulk d ≤ 1048576) :
    ∃ p : CT, v = .agg p.cells.toArray ∧ p.In w.heap.size w := by
  obtain ⟨cs, rfl, hsz⟩ := okWide_struct Try.underlying25 hval
  obtain ⟨fuel, hf⟩ := hd
  obtain ⟨p, ⟨h1, h2⟩, -⟩ := open_ct fuel _ _ hf hN
  refine ⟨p, ?_, h2⟩
  have h1 : cs.toList = p.cells := h1
  rw [← h1]
set_option maxRecDepth 100000 in
theorem open_argB {H : Type} {enc : TypeId × Value → H} {w : World} {sp : Nat → Bool} {held : Bool} {b0 : Nat} {v : Value} {d : DataW H} {ps : List MemPlace} (hval : Value.okWide Try.prog w .any b0 42 v) (hd : DataW.Trod enc Try.prog w 0 sp held 42 v d ps) (hN : Rows.uptoBulk d ≤ 1048576) :
    ∃ (a : Option Addr) (c : Nat) (bs : List UInt8), v = .slice a bs.length c ∧ bs.length ≤ 1048576 ∧ bs.length ≤ c ∧ Row w a bs := by
  obtain ⟨a, len, cap, rfl⟩ := okWide_slice Try.underlying42 hval
  obtain ⟨fuel, hf⟩ := hd
  obtain ⟨a', c', bs, h1, h2, h3, h4⟩ := open_by fuel _ _ hf hN
  have h1 : [Value.slice a len cap] = [Value.slice a' bs.length c'] := h1
  exact ⟨a', c', bs, by injection h1, h2, h3, h4⟩

set_option maxRecDepth 100000 in
theorem contract (H : Type) (enc : TypeId × Value → H) (W : World) (base : Nat) (args : Array Value) (ds gs : List (DataW H)) (before : List MemPlace)
    (hval : ∀ (j : Nat) t v, Try.f5.params[j]? = some t → args[j]? = some v → Value.okWide Try.prog W .any base t v)
    (hW : DataW.Whole enc Try.prog Try.f5.params.toList Rows.codeBackSpec.vars false W args.toList ds gs before) (hk : Rows.uptoSmall H (ds ++ gs) = true) :
    Calls Try.prog 5 args W fun e W' => ∃ v, e = .returned v ∧ Rows.codeBackSpec.post enc Try.prog Try.f5 false true false false W args v W' := by
  have hW' := hW
  obtain ⟨p, q, hA0, hV, rfl, hfz, hnd⟩ := hW
  have hA : DataW.TrodAll enc Try.prog W 0 (fun _ => true) true Try.f5.params.toList args.toList ds p := hA0
  rw [Try.params5] at hA hval
  obtain ⟨v0, vs0, d0, ds0, p0, q0, hargs, rfl, rfl, h0, r0⟩ := trodAll_cons hA
  obtain ⟨v1, vs1, d1, ds1, p1, q1, rfl, rfl, rfl, h1, r1⟩ := trodAll_cons r0
  obtain ⟨v2, vs2, d2, ds2, p2, q2, rfl, rfl, rfl, h2, r2⟩ := trodAll_cons r1
  obtain ⟨rfl, rfl, rfl⟩ := trodAll_nil r2
  obtain rfl : args = #[v0, v1, v2] := by cases args; simp_all
  obtain ⟨rfl, rfl⟩ := trodVars_none hV
  have hbk : Rows.uptoBulkAll ([d0, d1, d2] ++ []) ≤ 1048576 := of_decide_eq_true hk
  simp only [List.append_nil, Rows.uptoBulkAll] at hbk
  have k0 := h0
  have k1 := h1
  have k2 := h2
  have lt0 : ∀ x ∈ p0, x.block < W.heap.size := by obtain ⟨m, hm⟩ := k0; exact DataW.trod_lt m _ _ _ hm
  have lt1 : ∀ x ∈ p1, x.block < W.heap.size := by obtain ⟨m, hm⟩ := k1; exact DataW.trod_lt m _ _ _ hm
  have lt2 : ∀ x ∈ p2, x.block < W.heap.size := by obtain ⟨m, hm⟩ := k2; exact DataW.trod_lt m _ _ _ hm
  obtain ⟨pa, rfl, a2⟩ := open_arg (hval 0 25 v0 rfl rfl) h0 (by omega)
  obtain ⟨pb, rfl, b2⟩ := open_arg (hval 1 25 v1 rfl rfl) h1 (by omega)
  obtain ⟨ab, cb, bs, rfl, c1, c2, c3⟩ := open_argB (hval 2 42 v2 rfl rfl) h2 (by omega)
  clear hA0 hval
  refine (back_any W.heap.size pa pb ab cb bs W a2 b2 (Nat.le_refl _) c3 c2 (by omega)).mono fun e W' ⟨he, bel⟩ => ?_
  subst he
  exact ⟨_, rfl, _, _, _, [], _, [], hW', trodAll_mk1 (shut_bool Try.underlying4 _), (trodAll_cons_mk (Below.trod laidOut (by kernel_rfl) (of_decide_eq_true (by kernel_rfl)) k0 bel lt0) (trodAll_cons_mk (Below.trod laidOut (by kernel_rfl) (of_decide_eq_true (by kernel_rfl)) k1 bel lt1) (trodAll_cons_mk (Below.trod laidOut (by kernel_rfl) (of_decide_eq_true (by kernel_rfl)) k2 bel lt2) trodAll_mk0))), rfl, bel.frame _, fun h => by cases h⟩

def zeroC : Value := .agg #[.slice none 0 0, .int .i64 0, .slice none 0 0]

set_option maxRecDepth 100000 in
theorem lifted (os : Os) (started : os.Started) (H : Type) (enc : TypeId × Value → H) (F : Stop.Interp) :
    ReturnsInHanded {} Try.checked os 5 .any ((Rows.OpenSpec.upto Rows.codeBackSpec).pre6 enc Try.prog Try.f5 Rows.codeBackUptoRow.domain false) (((Rows.OpenSpec.upto Rows.codeBackSpec).at F).post enc Try.prog Try.f5 false true false false) := by
  refine returnsInHanded_of_cond (C := Try.checked) (s := Rows.OpenSpec.upto Rows.codeBackSpec) (k := Rows.uptoSmall) rfl own started (by kernel_rfl) Try.func5
    (OpenSpec.witness (enc := enc) (C := Try.checked) (s := Rows.OpenSpec.upto Rows.codeBackSpec) (k := Rows.uptoSmall) rfl false ⟨#[], #[zeroC, zeroC, .slice none 0 0], []⟩ 8 (by kernel_rfl) (by kernel_rfl) (by kernel_rfl)
      (x := ([.agg [.nil, .lit (.int .i64 0), .nil], .agg [.nil, .lit (.int .i64 0), .nil], .nil], [], [])) (by kernel_rfl) rfl (by kernel_rfl)) ?_
  intro W base args ds gs before hval hW _ hk _
  exact contract H enc W base args ds gs before hval hW hk

theorem over : Rows.codeBackUptoRow.holds Try.pinned (Rows.OpenSpec.upto Rows.codeBackSpec) :=
  OpenClaim.holds_of_cond 5 Try.f5 rfl rfl rfl rfl rfl rfl rfl ⟨rfl, rfl, rfl, rfl, rfl⟩ rfl rfl rfl rfl rfl (by kernel_rfl) Try.func5 (by kernel_rfl)
    (of_decide_eq_true (by kernel_rfl)) (by unfold Func.isWrapper; first | (rw [if_pos (by decide +kernel)]; kernel_rfl) | (rw [if_neg (by decide +kernel)]; exact ⟨rfl, rfl⟩))
    (fun os started H enc _ F => lifted os started H enc F)
end Go.Proofs.Ytefklmckkigllaa.codeBack
namespace Go.Proofs.Ytefklmckkigllaa
/-- ████ THE STATEMENT ████ -/
theorem codeBack_holds : Rows.CodeBackUptoSaid := codeBack.over
#print axioms codeBack_holds
end Go.Proofs.Ytefklmckkigllaa

