/- Joined texts of the proof. -/
import Derived.Test.YtefklmckkigllaaJ1
import Derived.Test.YtefklmckkigllaaRows
import Derived.ProofKit
import Derived.OpenShut
import Derived.Deep.Slices
import Derived.Test.YtefklmckkigllaaJ17

/- Trees that came in are opened. -/
namespace Go.Proofs.Ytefklmckkigllaa
open Go.ChangeShapes Go.WideShapes Go.ChangeAt Go.RowKit
set_option linter.unusedVariables false

theorem bulk_one {H : Type} (d : DataW H) : 1 ≤ Rows.uptoBulk d := by
  cases d with
  | lit l => cases l <;> simp [Rows.uptoBulk]
  | nil => simp [Rows.uptoBulk]
  | ptr d => simp [Rows.uptoBulk]
  | slice elems spare => simp [Rows.uptoBulk]
  | agg parts => simp [Rows.uptoBulk]
  | iface t d => simp [Rows.uptoBulk]
  | map entries => simp [Rows.uptoBulk]
  | held h => simp [Rows.uptoBulk]
theorem bulk_mem {H : Type} {d : DataW H} {l : List (DataW H)} (h : d ∈ l) : Rows.uptoBulk d ≤ Rows.uptoBulkAll l := by
  induction l with
  | nil => cases h
  | cons x r ih =>
    simp only [Rows.uptoBulkAll]
    rcases List.mem_cons.1 h with rfl | h
    · omega
    · have := ih h; omega
theorem bulk_len {H : Type} (l : List (DataW H)) : l.length ≤ Rows.uptoBulkAll l := by
  induction l with
  | nil => simp
  | cons x r ih => have := bulk_one x; simp only [Rows.uptoBulkAll, List.length_cons]; omega

/-- For each of a list one that fits. -/
theorem choose_list {α β : Type} : ∀ (l : List β) (R : Nat → β → α → Prop), (∀ i b, l[i]? = some b → ∃ a, R i b a) → ∃ vs : List α, vs.length = l.length ∧ ∀ i b a, l[i]? = some b → vs[i]? = some a → R i b a
  | [], R, h => ⟨[], rfl, fun i b a hb => by simp at hb⟩
  | x :: r, R, h => by
    obtain ⟨a, ha⟩ := h 0 x rfl
    obtain ⟨vs, hl, hv⟩ := choose_list r (fun i => R (i + 1)) (fun i b hb => h (i + 1) b (by simpa using hb))
    refine ⟨a :: vs, by simp [hl], fun i b c hb hc => ?_⟩
    cases i with
    | zero => simp at hb hc; subst hb hc; exact ha
    | succ i => exact hv i b c (by simpa using hb) (by simpa using hc)

theorem sum_bulk {α H : Type} (wt : α → Nat) : ∀ (vs : List α) (l : List (DataW H)), vs.length = l.length → (∀ (i : Nat) (v : α) (d : DataW H), vs[i]? = some v → l[i]? = some d → wt v ≤ Rows.uptoBulk d) → (vs.map wt).sum ≤ Rows.uptoBulkAll l
  | [], [], _, _ => by simp
  | [], d :: r, h, _ => by simp at h
  | v :: vs, [], h, _ => by simp at h
  | v :: vs, d :: r, h, hw => by
    have h0 := hw 0 v d rfl rfl
    have := sum_bulk wt vs r (by simpa using h) (fun i a b ha hb => hw (i + 1) a b (by simpa using ha) (by simpa using hb))
    simp only [List.map_cons, List.sum_cons, Rows.uptoBulkAll]
    omega

section
variable {H : Type} {enc : TypeId × Value → H} {w : World} {sp : Nat → Bool} {held : Bool}

end
end Go.Proofs.Ytefklmckkigllaa

/- Codes that came in are opened. -/
namespace Go.Proofs.Ytefklmckkigllaa
open Go.ChangeShapes Go.WideShapes Go.ChangeAt Go.RowKit
set_option linter.unusedVariables false

theorem c32 : Try.prog.cellsOf 32 = 1 := by kernel_rfl
theorem c33 : Try.prog.cellsOf 33 = 1 := by kernel_rfl
theorem c31 : Try.prog.cellsOf 31 = 1 := by kernel_rfl
theorem c3 : Try.prog.cellsOf 3 = 1 := by kernel_rfl
theorem c35 : Try.prog.cellsOf 35 = 2 := by kernel_rfl
theorem c37 : Try.prog.cellsOf 37 = 4 := by kernel_rfl
theorem c38 : Try.prog.cellsOf 38 = 1 := by kernel_rfl
theorem c22 : Try.prog.cellsOf 22 = 1 := by kernel_rfl
theorem c43 : Try.prog.cellsOf 43 = 1 := by kernel_rfl
theorem c23 : Try.prog.cellsOf 23 = 1 := by kernel_rfl
theorem c49 : Try.prog.cellsOf 49 = 5 := by kernel_rfl
theorem c45 : Try.prog.cellsOf 45 = 3 := by kernel_rfl
theorem c25 : Try.prog.cellsOf 25 = 3 := by kernel_rfl
theorem c5 : Try.prog.cellsOf 5 = 1 := by kernel_rfl
theorem len2 {α : Type} : ∀ {l : List α}, l.length = 2 → ∃ a b, l = [a, b]
  | [a, b], _ => ⟨a, b, rfl⟩
theorem len3 {α : Type} : ∀ {l : List α}, l.length = 3 → ∃ a b c, l = [a, b, c]
  | [a, b, c], _ => ⟨a, b, c, rfl⟩
theorem len4 {α : Type} : ∀ {l : List α}, l.length = 4 → ∃ a b c d, l = [a, b, c, d]
  | [a, b, c, d], _ => ⟨a, b, c, d, rfl⟩
theorem len5 {α : Type} : ∀ {l : List α}, l.length = 5 → ∃ a b c d e, l = [a, b, c, d, e]
  | [a, b, c, d, e], _ => ⟨a, b, c, d, e, rfl⟩
theorem u8_of {x : Int} (h : (Lit.int .u8 x).wf = true) : ∃ n : Nat, x = (n : Int) ∧ n < 256 := by
  have h : 0 ≤ x ∧ x ≤ 255 := by simpa [Lit.wf, IntKind.min, IntKind.max, IntKind.signed, IntKind.bits] using h
  exact ⟨x.toNat, by omega, by omega⟩
theorem u64_of {x : Int} (h : (Lit.int .u64 x).wf = true) : ∃ n : Nat, x = (n : Int) ∧ n < 18446744073709551616 := by
  have h : 0 ≤ x ∧ x ≤ 18446744073709551615 := by simpa [Lit.wf, IntKind.min, IntKind.max, IntKind.signed, IntKind.bits] using h
  exact ⟨x.toNat, by omega, by omega⟩
theorem i64_of {x : Int} (h : (Lit.int .i64 x).wf = true) : I64 x := by
  simpa [I64, Lit.wf, IntKind.min, IntKind.max, IntKind.signed, IntKind.bits] using h

section
variable {H : Type} {enc : TypeId × Value → H} {w : World} {sp : Nat → Bool} {held : Bool}

theorem open_vl (fuel : Nat) (cs : List Value) (x : DataW H × List MemPlace) (h : DataW.trod enc Try.prog w 0 sp held fuel 35 cs = some x) : ∃ v : Vl, (cs = v.cells ∧ v.Ok) ∧ 1 ≤ Rows.uptoBulk x.1 := by
  obtain ⟨xs, n, hf, rfl, hl, hlen, hx⟩ := DataW.trod_struct Try.underlying35 h
  rw [c35] at hl
  obtain ⟨z0, z1, rfl⟩ := len2 hl
  obtain ⟨y0, y1, rfl⟩ := len2 (show xs.length = 2 from hlen)
  have f0 := hx 0 { name := "T", type := 32, offset := 0, embedded := false, tag := "", pkgPath := "", byteOffset := 0 } rfl
  dsimp only at f0
  rw [c32] at f0
  have f0 : DataW.trod enc Try.prog w 0 sp held n 32 [z0] = some y0 := f0
  have f1 := hx 1 { name := "Bits", type := 33, offset := 1, embedded := false, tag := "", pkgPath := "", byteOffset := 8 } rfl
  dsimp only at f1
  rw [c33] at f1
  have f1 : DataW.trod enc Try.prog w 0 sp held n 33 [z1] = some y1 := f1
  obtain ⟨i0, e0, -, hw0⟩ := DataW.trod_int Try.underlying32 f0
  obtain ⟨i1, e1, -, hw1⟩ := DataW.trod_int Try.underlying33 f1
  simp at e0 e1
  subst e0 e1
  obtain ⟨tn, rfl, ht⟩ := u8_of hw0
  obtain ⟨bn, rfl, hb⟩ := u64_of hw1
  exact ⟨⟨tn, bn⟩, ⟨rfl, ht, hb⟩, bulk_one _⟩
theorem open_ir (fuel : Nat) (cs : List Value) (x : DataW H × List MemPlace) (h : DataW.trod enc Try.prog w 0 sp held fuel 37 cs = some x) : ∃ v : Ir, (cs = v.cells ∧ v.Ok) ∧ 1 ≤ Rows.uptoBulk x.1 := by
  obtain ⟨xs, n, hf, rfl, hl, hlen, hx⟩ := DataW.trod_struct Try.underlying37 h
  rw [c37] at hl
  obtain ⟨z0, z1, z2, z3, rfl⟩ := len4 hl
  obtain ⟨y0, y1, y2, rfl⟩ := len3 (show xs.length = 3 from hlen)
  have f0 := hx 0 { name := "Op", type := 31, offset := 0, embedded := false, tag := "", pkgPath := "", byteOffset := 0 } rfl
  dsimp only at f0
  rw [c31] at f0
  have f0 : DataW.trod enc Try.prog w 0 sp held n 31 [z0] = some y0 := f0
  have f1 := hx 1 { name := "Arg", type := 3, offset := 1, embedded := false, tag := "", pkgPath := "", byteOffset := 8 } rfl
  dsimp only at f1
  rw [c3] at f1
  have f1 : DataW.trod enc Try.prog w 0 sp held n 3 [z1] = some y1 := f1
  have f2 := hx 2 { name := "Lit", type := 35, offset := 2, embedded := false, tag := "", pkgPath := "", byteOffset := 16 } rfl
  dsimp only at f2
  rw [c35] at f2
  have f2 : DataW.trod enc Try.prog w 0 sp held n 35 [z2, z3] = some y2 := f2
  obtain ⟨i0, e0, -, hw0⟩ := DataW.trod_int Try.underlying31 f0
  obtain ⟨i1, e1, -, hw1⟩ := DataW.trod_int Try.underlying3 f1
  obtain ⟨v, ⟨e2, hv⟩, -⟩ := open_vl _ _ _ f2
  simp [Vl.cells] at e0 e1 e2
  subst e0 e1
  obtain ⟨rfl, rfl⟩ := e2
  obtain ⟨on, rfl, ho⟩ := u8_of hw0
  exact ⟨⟨on, i1, v⟩, ⟨rfl, ho, i64_of hw1, hv⟩, bulk_one _⟩
theorem row_open {α : Type} {cl : α → List Value} {n : Nat} {P : α → Prop} {a : Option Addr} {c : Nat} {ks : List α} (k1 : ks.length ≤ 1048576) (k2 : ks.length ≤ c) (k4 : ks = [] ∨ ∃ g o, a = some ⟨g, o, none⟩ ∧ g < w.heap.size ∧ ∀ (i : Nat) (v : α), ks[i]? = some v → ∃ cs', w.rangeAt g (o + i * n) cs' ∧ (cs' = cl v ∧ P v)) : RowG cl n P w.heap.size w a c ks := by
  refine ⟨k1, k2, ?_⟩
  rcases k4 with k4 | ⟨g, o, ha, hg, hr⟩
  · exact .inl k4
  · refine .inr ⟨g, o, ha, hg, fun i e he => ?_⟩
    obtain ⟨cs', h1, rfl, h3⟩ := hr i e he
    exact ⟨h1, h3⟩
end
end Go.Proofs.Ytefklmckkigllaa

/- Codes that came in are opened: nil lists have no room. -/
namespace Go.Proofs.Ytefklmckkigllaa
open Go.ChangeShapes Go.WideShapes Go.ChangeAt Go.RowKit
set_option linter.unusedVariables false

section
variable {H : Type} {enc : TypeId × Value → H} {w : World} {sp : Nat → Bool} {held : Bool}

/-- A row that came in. -/
theorem open_row2 {α : Type} (t e k : Nat) (hk : 0 < k) (ht : Try.prog.underlying t = some (.slice e)) (hc : Try.prog.cellsOf e = k) (wt : α → Nat) (G : α → List Value → Prop)
    (fuel : Nat) (cs : List Value) (x : DataW H × List MemPlace) (h : DataW.trod enc Try.prog w 0 sp held fuel t cs = some x) (N : Nat) (hN : Rows.uptoBulk x.1 ≤ N)
    (ho : ∀ n, n < fuel → ∀ (cs' : List Value) (y : DataW H × List MemPlace), DataW.trod enc Try.prog w 0 sp held n e cs' = some y → Rows.uptoBulk y.1 ≤ N → ∃ v : α, G v cs' ∧ wt v ≤ Rows.uptoBulk y.1) :
    ∃ (a : Option Addr) (c : Nat) (vs : List α), cs = [.slice a vs.length c] ∧ (a = none → c = 0) ∧ vs.length ≤ N ∧ vs.length ≤ c ∧ (vs.map wt).sum + 1 ≤ Rows.uptoBulk x.1 ∧ (vs = [] ∨ ∃ g o, a = some ⟨g, o, none⟩ ∧ g < w.heap.size ∧ ∀ (i : Nat) (v : α), vs[i]? = some v → ∃ cs', w.rangeAt g (o + i * k) cs' ∧ G v cs') := by
  rcases DataW.trod_slice ht h with ⟨rfl, rfl⟩ | ⟨ad, len, cap, elems, rest, n, hf, rfl, rfl, hb, hl, hm, hlen, hel, -, -⟩
  · exact ⟨none, 0, [], rfl, fun _ => rfl, by simp, by simp, by simp [Rows.uptoBulk], .inl rfl⟩
  · have hbk : Rows.uptoBulkAll (elems.map (·.1)) + 1 ≤ Rows.uptoBulk (DataW.slice (elems.map (·.1)) (rest.map (·.1))) := by
      simp only [Rows.uptoBulk]
      omega
    rw [hc] at hel
    obtain ⟨vs, hvl, hv⟩ := choose_list elems (fun i b (v : α) => ∃ cs', w.cells? 0 (ad.add (i * k)) k = some cs' ∧ G v cs' ∧ wt v ≤ Rows.uptoBulk b.1) (fun i b hib => by
      have hi : i < len := by
        have := (List.getElem?_eq_some_iff.1 hib).1
        omega
      have h0 := hel i hi
      rw [hib] at h0
      obtain ⟨cs', h1, h2⟩ := Option.bind_eq_some_iff.1 h0
      have hbb : Rows.uptoBulk b.1 ≤ N := by
        have := bulk_mem (List.mem_map_of_mem (f := (·.1)) (List.mem_of_getElem? hib))
        simp only at hN
        omega
      obtain ⟨v, g1, g2⟩ := ho n (by omega) cs' b h2 hbb
      exact ⟨v, cs', h1, g1, g2⟩)
    have hlv : vs.length = len := by rw [hvl, hlen]
    have hsum : (vs.map wt).sum ≤ Rows.uptoBulkAll (elems.map (·.1)) := sum_bulk wt vs _ (by simp [hvl]) (fun i v d h1 h2 => by
      rw [List.getElem?_map] at h2
      obtain ⟨b, hb1, rfl⟩ := Option.map_eq_some_iff.1 h2
      exact (hv i b v hb1 h1).choose_spec.2.2)
    have hln := bulk_len (elems.map (·.1))
    rw [List.length_map] at hln
    refine ⟨some ad, cap, vs, by rw [hlv], (fun h => by cases h), by simp only at hN; omega, by omega, Nat.le_trans (Nat.add_le_add_right hsum 1) hbk, ?_⟩
    cases vs with
    | nil => exact .inl rfl
    | cons v0 vr =>
      right
      obtain ⟨g, o, spot⟩ := ad
      have hcell : ∀ (i : Nat) (v : α), (v0 :: vr)[i]? = some v → ∃ cs', w.cells? 0 ((⟨g, o, spot⟩ : Addr).add (i * k)) k = some cs' ∧ G v cs' := fun i v hi => by
        have hlt := (List.getElem?_eq_some_iff.1 hi).1
        obtain ⟨cs', h1, h2, -⟩ := hv i (elems[i]'(by omega)) v (List.getElem?_eq_getElem _) hi
        exact ⟨cs', h1, h2⟩
      obtain ⟨cs0, hc0, -⟩ := hcell 0 v0 rfl
      obtain ⟨_, hl0, hcc⟩ := World.cells?_some hc0
      have hv0 : ∃ z, w.cell? ⟨g, o, spot⟩ = some z := by
        have := hcc 0 hk
        rw [Nat.zero_mul] at this
        have hcs : 0 < cs0.length := by omega
        rw [List.getElem?_eq_getElem hcs] at this
        exact ⟨_, by simpa [Addr.add] using this⟩
      obtain ⟨z, hz⟩ := hv0
      have hspot : spot = none := World.cell?_spot hz
      subst hspot
      refine ⟨g, o, rfl, lt_of_cell hz, fun i v hi => ?_⟩
      obtain ⟨cs', h1, h2⟩ := hcell i v hi
      refine ⟨cs', fun j u hj => ?_, h2⟩
      obtain ⟨_, hl1, hcc1⟩ := World.cells?_some h1
      have hjl := (List.getElem?_eq_some_iff.1 hj).1
      have := hcc1 j (by omega)
      rw [hj, Addr.add_mid, Addr.add_mid] at this
      exact this
theorem open_nt2 (fuel : Nat) (cs : List Value) (x : DataW H × List MemPlace) (h : DataW.trod enc Try.prog w 0 sp held fuel 49 cs = some x) (hN : Rows.uptoBulk x.1 ≤ 1048576) : ∃ v : NT, (cs = v.cells ∧ v.In w.heap.size w ∧ v.Nl) ∧ 1 ≤ Rows.uptoBulk x.1 := by
  obtain ⟨xs, n, hf, rfl, hl, hlen, hx⟩ := DataW.trod_struct Try.underlying49 h
  rw [c49] at hl
  obtain ⟨z0, z1, z2, z3, z4, rfl⟩ := len5 hl
  obtain ⟨y0, y1, y2, y3, y4, rfl⟩ := len5 (show xs.length = 5 from hlen)
  have f0 := hx 0 { name := "Code", type := 38, offset := 0, embedded := false, tag := "", pkgPath := "", byteOffset := 0 } rfl
  dsimp only at f0
  rw [c38] at f0
  have f0 : DataW.trod enc Try.prog w 0 sp held n 38 [z0] = some y0 := f0
  have f1 := hx 1 { name := "Kind", type := 3, offset := 1, embedded := false, tag := "", pkgPath := "", byteOffset := 24 } rfl
  dsimp only at f1
  rw [c3] at f1
  have f1 : DataW.trod enc Try.prog w 0 sp held n 3 [z1] = some y1 := f1
  have f2 := hx 2 { name := "Arg", type := 3, offset := 2, embedded := false, tag := "", pkgPath := "", byteOffset := 32 } rfl
  dsimp only at f2
  rw [c3] at f2
  have f2 : DataW.trod enc Try.prog w 0 sp held n 3 [z2] = some y2 := f2
  have f3 := hx 3 { name := "Next", type := 3, offset := 3, embedded := false, tag := "", pkgPath := "", byteOffset := 40 } rfl
  dsimp only at f3
  rw [c3] at f3
  have f3 : DataW.trod enc Try.prog w 0 sp held n 3 [z3] = some y3 := f3
  have f4 := hx 4 { name := "Alt", type := 3, offset := 4, embedded := false, tag := "", pkgPath := "", byteOffset := 48 } rfl
  dsimp only at f4
  rw [c3] at f4
  have f4 : DataW.trod enc Try.prog w 0 sp held n 3 [z4] = some y4 := f4
  obtain ⟨i1, e1, -, hw1⟩ := DataW.trod_int Try.underlying3 f1
  obtain ⟨i2, e2, -, hw2⟩ := DataW.trod_int Try.underlying3 f2
  obtain ⟨i3, e3, -, hw3⟩ := DataW.trod_int Try.underlying3 f3
  obtain ⟨i4, e4, -, hw4⟩ := DataW.trod_int Try.underlying3 f4
  have hbk : Rows.uptoBulk y0.1 ≤ 1048576 := by
    simp only [List.map_cons, List.map_nil, Rows.uptoBulk, Rows.uptoBulkAll] at hN
    omega
  obtain ⟨a1, c1', ks, e0, k0, k1, k2, k3, k4⟩ := open_row2 38 37 4 (by decide) Try.underlying38 c37 (fun _ : Ir => 1) (fun (e : Ir) cs' => cs' = e.cells ∧ e.Ok) n _ _ f0 1048576 hbk (fun m hm cs' y hy hby => open_ir m cs' y hy)
  simp at e0 e1 e2 e3 e4
  subst e0 e1 e2 e3 e4
  exact ⟨⟨a1, c1', ⟨ks, i1, i2, i3, i4⟩⟩, ⟨rfl, ⟨row_open k1 k2 k4, i64_of hw1, i64_of hw2, i64_of hw3, i64_of hw4⟩, k0⟩, bulk_one _⟩
theorem open_bt2 (fuel : Nat) (cs : List Value) (x : DataW H × List MemPlace) (h : DataW.trod enc Try.prog w 0 sp held fuel 45 cs = some x) (hN : Rows.uptoBulk x.1 ≤ 1048576) : ∃ v : BT, (cs = v.cells ∧ v.In w.heap.size w ∧ v.Nl) ∧ 1 ≤ Rows.uptoBulk x.1 := by
  obtain ⟨xs, n, hf, rfl, hl, hlen, hx⟩ := DataW.trod_struct Try.underlying45 h
  rw [c45] at hl
  obtain ⟨z0, z1, z2, rfl⟩ := len3 hl
  obtain ⟨y0, y1, y2, rfl⟩ := len3 (show xs.length = 3 from hlen)
  have f0 := hx 0 { name := "Locals", type := 22, offset := 0, embedded := false, tag := "", pkgPath := "", byteOffset := 0 } rfl
  dsimp only at f0
  rw [c22] at f0
  have f0 : DataW.trod enc Try.prog w 0 sp held n 22 [z0] = some y0 := f0
  have f1 := hx 1 { name := "Stack", type := 3, offset := 1, embedded := false, tag := "", pkgPath := "", byteOffset := 24 } rfl
  dsimp only at f1
  rw [c3] at f1
  have f1 : DataW.trod enc Try.prog w 0 sp held n 3 [z1] = some y1 := f1
  have f2 := hx 2 { name := "Nodes", type := 43, offset := 2, embedded := false, tag := "", pkgPath := "", byteOffset := 32 } rfl
  dsimp only at f2
  rw [c43] at f2
  have f2 : DataW.trod enc Try.prog w 0 sp held n 43 [z2] = some y2 := f2
  obtain ⟨i1, e1, -, hw1⟩ := DataW.trod_int Try.underlying3 f1
  have hbk : Rows.uptoBulk y0.1 ≤ 1048576 ∧ Rows.uptoBulk y2.1 ≤ 1048576 := by
    simp only [List.map_cons, List.map_nil, Rows.uptoBulk, Rows.uptoBulkAll] at hN
    omega
  obtain ⟨a1, c1', ks, e0, k0, k1, k2, k3, k4⟩ := open_row2 22 35 2 (by decide) Try.underlying22 c35 (fun _ : Vl => 1) (fun (e : Vl) cs' => cs' = e.cells ∧ e.Ok) n _ _ f0 1048576 hbk.1 (fun m hm cs' y hy hby => open_vl m cs' y hy)
  obtain ⟨a2, c2', ns, e2, l0, l1, l2, l3, l4⟩ := open_row2 43 49 5 (by decide) Try.underlying43 c49 (fun _ : NT => 1) (fun (e : NT) cs' => cs' = e.cells ∧ (e.In w.heap.size w ∧ e.Nl)) n _ _ f2 1048576 hbk.2 (fun m hm cs' y hy hby => open_nt2 m cs' y hy hby)
  simp at e0 e1 e2
  subst e0 e1 e2
  exact ⟨⟨a1, c1', ks, i1, a2, c2', ns⟩, ⟨rfl, ⟨row_open k1 k2 k4, i64_of hw1, RowG.up (row_open l1 l2 l4) (Nat.le_refl _) fun _ h => h.1⟩, k0, fun n hn => (RowG.all (row_open l1 l2 l4) n hn).2⟩, bulk_one _⟩
theorem open_ct2 (fuel : Nat) (cs : List Value) (x : DataW H × List MemPlace) (h : DataW.trod enc Try.prog w 0 sp held fuel 25 cs = some x) (hN : Rows.uptoBulk x.1 ≤ 1048576) : ∃ v : CT, (cs = v.cells ∧ v.In w.heap.size w ∧ v.Nl) ∧ 1 ≤ Rows.uptoBulk x.1 := by
  obtain ⟨xs, n, hf, rfl, hl, hlen, hx⟩ := DataW.trod_struct Try.underlying25 h
  rw [c25] at hl
  obtain ⟨z0, z1, z2, rfl⟩ := len3 hl
  obtain ⟨y0, y1, y2, rfl⟩ := len3 (show xs.length = 3 from hlen)
  have f0 := hx 0 { name := "Shared", type := 22, offset := 0, embedded := false, tag := "", pkgPath := "", byteOffset := 0 } rfl
  dsimp only at f0
  rw [c22] at f0
  have f0 : DataW.trod enc Try.prog w 0 sp held n 22 [z0] = some y0 := f0
  have f1 := hx 1 { name := "Mutexes", type := 3, offset := 1, embedded := false, tag := "", pkgPath := "", byteOffset := 24 } rfl
  dsimp only at f1
  rw [c3] at f1
  have f1 : DataW.trod enc Try.prog w 0 sp held n 3 [z1] = some y1 := f1
  have f2 := hx 2 { name := "Bodies", type := 23, offset := 2, embedded := false, tag := "", pkgPath := "", byteOffset := 32 } rfl
  dsimp only at f2
  rw [c23] at f2
  have f2 : DataW.trod enc Try.prog w 0 sp held n 23 [z2] = some y2 := f2
  obtain ⟨i1, e1, -, hw1⟩ := DataW.trod_int Try.underlying3 f1
  have hbk : Rows.uptoBulk y0.1 ≤ 1048576 ∧ Rows.uptoBulk y2.1 ≤ 1048576 := by
    simp only [List.map_cons, List.map_nil, Rows.uptoBulk, Rows.uptoBulkAll] at hN
    omega
  obtain ⟨a1, c1', ks, e0, k0, k1, k2, k3, k4⟩ := open_row2 22 35 2 (by decide) Try.underlying22 c35 (fun _ : Vl => 1) (fun (e : Vl) cs' => cs' = e.cells ∧ e.Ok) n _ _ f0 1048576 hbk.1 (fun m hm cs' y hy hby => open_vl m cs' y hy)
  obtain ⟨a2, c2', ns, e2, l0, l1, l2, l3, l4⟩ := open_row2 23 45 3 (by decide) Try.underlying23 c45 (fun _ : BT => 1) (fun (e : BT) cs' => cs' = e.cells ∧ (e.In w.heap.size w ∧ e.Nl)) n _ _ f2 1048576 hbk.2 (fun m hm cs' y hy hby => open_bt2 m cs' y hy hby)
  simp at e0 e1 e2
  subst e0 e1 e2
  exact ⟨⟨a1, c1', ks, i1, a2, c2', ns⟩, ⟨rfl, ⟨row_open k1 k2 k4, i64_of hw1, RowG.up (row_open l1 l2 l4) (Nat.le_refl _) fun _ h => h.1⟩, k0, fun n hn => (RowG.all (row_open l1 l2 l4) n hn).2⟩, bulk_one _⟩
end
end Go.Proofs.Ytefklmckkigllaa
