/- Codes that came in are opened. -/
import Derived.Test.YtefklmckkigllaaOpA
namespace Go.Proofs.Ytefklmckkigllaa
open Go.ChangeShapes Go.WideShapes Go.ChangeAt Go.RowKit
set_option linter.unusedVariables false

theorem c32 : Try.prog.cellsOf 32 = 1 := by kernel_rfl
theorem c33 : Try.prog.cellsOf 33 = 1 := by kernel_rfl
theorem c31 : Try.prog.cellsOf 31 = 1 := by kernel_rfl
theorem c3 : Try.prog.cellsOf 3 = 1 := by kernel_rfl
theorem c35 : Try.prog.cellsOf 35 = 2 := by kernel_rfl
theorem c37 : Try.prog.cellsOf 37 = 4 := by kernel_rfl
theorem c38 : Try.prog.cellsOf 38 = 1 := by kernel_rfl
theorem c22 : Try.prog.cellsOf 22 = 1 := by kernel_rfl
theorem c43 : Try.prog.cellsOf 43 = 1 := by kernel_rfl
theorem c23 : Try.prog.cellsOf 23 = 1 := by kernel_rfl
theorem c49 : Try.prog.cellsOf 49 = 5 := by kernel_rfl
theorem c45 : Try.prog.cellsOf 45 = 3 := by kernel_rfl
theorem c25 : Try.prog.cellsOf 25 = 3 := by kernel_rfl
theorem c5 : Try.prog.cellsOf 5 = 1 := by kernel_rfl
theorem len2 {α : Type} : ∀ {l : List α}, l.length = 2 → ∃ a b, l = [a, b]
  | [a, b], _ => ⟨a, b, rfl⟩
theorem len3 {α : Type} : ∀ {l : List α}, l.length = 3 → ∃ a b c, l = [a, b, c]
  | [a, b, c], _ => ⟨a, b, c, rfl⟩
theorem len4 {α : Type} : ∀ {l : List α}, l.length = 4 → ∃ a b c d, l = [a, b, c, d]
  | [a, b, c, d], _ => ⟨a, b, c, d, rfl⟩
theorem len5 {α : Type} : ∀ {l : List α}, l.length = 5 → ∃ a b c d e, l = [a, b, c, d, e]
  | [a, b, c, d, e], _ => ⟨a, b, c, d, e, rfl⟩
theorem u8_of {x : Int} (h : (Lit.int .u8 x).wf = true) : ∃ n : Nat, x = (n : Int) ∧ n < 256 := by
  have h : 0 ≤ x ∧ x ≤ 255 := by simpa [Lit.wf, IntKind.min, IntKind.max, IntKind.signed, IntKind.bits] using h
  exact ⟨x.toNat, by omega, by omega⟩
theorem u64_of {x : Int} (h : (Lit.int .u64 x).wf = true) : ∃ n : Nat, x = (n : Int) ∧ n < 18446744073709551616 := by
  have h : 0 ≤ x ∧ x ≤ 18446744073709551615 := by simpa [Lit.wf, IntKind.min, IntKind.max, IntKind.signed, IntKind.bits] using h
  exact ⟨x.toNat, by omega, by omega⟩
theorem i64_of {x : Int} (h : (Lit.int .i64 x).wf = true) : I64 x := by
  simpa [I64, Lit.wf, IntKind.min, IntKind.max, IntKind.signed, IntKind.bits] using h

section
variable {H : Type} {enc : TypeId × Value → H} {w : World} {sp : Nat → Bool} {held : Bool}

theorem open_vl (fuel : Nat) (cs : List Value) (x : DataW H × List MemPlace) (h : DataW.trod enc Try.prog w 0 sp held fuel 35 cs = some x) : ∃ v : Vl, (cs = v.cells ∧ v.Ok) ∧ 1 ≤ Rows.uptoBulk x.1 := by
  obtain ⟨xs, n, hf, rfl, hl, hlen, hx⟩ := DataW.trod_struct Try.underlying35 h
  rw [c35] at hl
  obtain ⟨z0, z1, rfl⟩ := len2 hl
  obtain ⟨y0, y1, rfl⟩ := len2 (show xs.length = 2 from hlen)
  have f0 := hx 0 { name := "T", type := 32, offset := 0, embedded := false, tag := "", pkgPath := "", byteOffset := 0 } rfl
  dsimp only at f0
  rw [c32] at f0
  have f0 : DataW.trod enc Try.prog w 0 sp held n 32 [z0] = some y0 := f0
  have f1 := hx 1 { name := "Bits", type := 33, offset := 1, embedded := false, tag := "", pkgPath := "", byteOffset := 8 } rfl
  dsimp only at f1
  rw [c33] at f1
  have f1 : DataW.trod enc Try.prog w 0 sp held n 33 [z1] = some y1 := f1
  obtain ⟨i0, e0, -, hw0⟩ := DataW.trod_int Try.underlying32 f0
  obtain ⟨i1, e1, -, hw1⟩ := DataW.trod_int Try.underlying33 f1
  simp at e0 e1
  subst e0 e1
  obtain ⟨tn, rfl, ht⟩ := u8_of hw0
  obtain ⟨bn, rfl, hb⟩ := u64_of hw1
  exact ⟨⟨tn, bn⟩, ⟨rfl, ht, hb⟩, bulk_one _⟩
theorem open_ir (fuel : Nat) (cs : List Value) (x : DataW H × List MemPlace) (h : DataW.trod enc Try.prog w 0 sp held fuel 37 cs = some x) : ∃ v : Ir, (cs = v.cells ∧ v.Ok) ∧ 1 ≤ Rows.uptoBulk x.1 := by
  obtain ⟨xs, n, hf, rfl, hl, hlen, hx⟩ := DataW.trod_struct Try.underlying37 h
  rw [c37] at hl
  obtain ⟨z0, z1, z2, z3, rfl⟩ := len4 hl
  obtain ⟨y0, y1, y2, rfl⟩ := len3 (show xs.length = 3 from hlen)
  have f0 := hx 0 { name := "Op", type := 31, offset := 0, embedded := false, tag := "", pkgPath := "", byteOffset := 0 } rfl
  dsimp only at f0
  rw [c31] at f0
  have f0 : DataW.trod enc Try.prog w 0 sp held n 31 [z0] = some y0 := f0
  have f1 := hx 1 { name := "Arg", type := 3, offset := 1, embedded := false, tag := "", pkgPath := "", byteOffset := 8 } rfl
  dsimp only at f1
  rw [c3] at f1
  have f1 : DataW.trod enc Try.prog w 0 sp held n 3 [z1] = some y1 := f1
  have f2 := hx 2 { name := "Lit", type := 35, offset := 2, embedded := false, tag := "", pkgPath := "", byteOffset := 16 } rfl
  dsimp only at f2
  rw [c35] at f2
  have f2 : DataW.trod enc Try.prog w 0 sp held n 35 [z2, z3] = some y2 := f2
  obtain ⟨i0, e0, -, hw0⟩ := DataW.trod_int Try.underlying31 f0
  obtain ⟨i1, e1, -, hw1⟩ := DataW.trod_int Try.underlying3 f1
  obtain ⟨v, ⟨e2, hv⟩, -⟩ := open_vl _ _ _ f2
  simp [Vl.cells] at e0 e1 e2
  subst e0 e1
  obtain ⟨rfl, rfl⟩ := e2
  obtain ⟨on, rfl, ho⟩ := u8_of hw0
  exact ⟨⟨on, i1, v⟩, ⟨rfl, ho, i64_of hw1, hv⟩, bulk_one _⟩
theorem row_open {α : Type} {cl : α → List Value} {n : Nat} {P : α → Prop} {a : Option Addr} {c : Nat} {ks : List α} (k1 : ks.length ≤ 1048576) (k2 : ks.length ≤ c) (k4 : ks = [] ∨ ∃ g o, a = some ⟨g, o, none⟩ ∧ g < w.heap.size ∧ ∀ (i : Nat) (v : α), ks[i]? = some v → ∃ cs', w.rangeAt g (o + i * n) cs' ∧ (cs' = cl v ∧ P v)) : RowG cl n P w.heap.size w a c ks := by
  refine ⟨k1, k2, ?_⟩
  rcases k4 with k4 | ⟨g, o, ha, hg, hr⟩
  · exact .inl k4
  · refine .inr ⟨g, o, ha, hg, fun i e he => ?_⟩
    obtain ⟨cs', h1, rfl, h3⟩ := hr i e he
    exact ⟨h1, h3⟩
theorem open_nt (fuel : Nat) (cs : List Value) (x : DataW H × List MemPlace) (h : DataW.trod enc Try.prog w 0 sp held fuel 49 cs = some x) (hN : Rows.uptoBulk x.1 ≤ 1048576) : ∃ v : NT, (cs = v.cells ∧ v.In w.heap.size w) ∧ 1 ≤ Rows.uptoBulk x.1 := by
  obtain ⟨xs, n, hf, rfl, hl, hlen, hx⟩ := DataW.trod_struct Try.underlying49 h
  rw [c49] at hl
  obtain ⟨z0, z1, z2, z3, z4, rfl⟩ := len5 hl
  obtain ⟨y0, y1, y2, y3, y4, rfl⟩ := len5 (show xs.length = 5 from hlen)
  have f0 := hx 0 { name := "Code", type := 38, offset := 0, embedded := false, tag := "", pkgPath := "", byteOffset := 0 } rfl
  dsimp only at f0
  rw [c38] at f0
  have f0 : DataW.trod enc Try.prog w 0 sp held n 38 [z0] = some y0 := f0
  have f1 := hx 1 { name := "Kind", type := 3, offset := 1, embedded := false, tag := "", pkgPath := "", byteOffset := 24 } rfl
  dsimp only at f1
  rw [c3] at f1
  have f1 : DataW.trod enc Try.prog w 0 sp held n 3 [z1] = some y1 := f1
  have f2 := hx 2 { name := "Arg", type := 3, offset := 2, embedded := false, tag := "", pkgPath := "", byteOffset := 32 } rfl
  dsimp only at f2
  rw [c3] at f2
  have f2 : DataW.trod enc Try.prog w 0 sp held n 3 [z2] = some y2 := f2
  have f3 := hx 3 { name := "Next", type := 3, offset := 3, embedded := false, tag := "", pkgPath := "", byteOffset := 40 } rfl
  dsimp only at f3
  rw [c3] at f3
  have f3 : DataW.trod enc Try.prog w 0 sp held n 3 [z3] = some y3 := f3
  have f4 := hx 4 { name := "Alt", type := 3, offset := 4, embedded := false, tag := "", pkgPath := "", byteOffset := 48 } rfl
  dsimp only at f4
  rw [c3] at f4
  have f4 : DataW.trod enc Try.prog w 0 sp held n 3 [z4] = some y4 := f4
  obtain ⟨i1, e1, -, hw1⟩ := DataW.trod_int Try.underlying3 f1
  obtain ⟨i2, e2, -, hw2⟩ := DataW.trod_int Try.underlying3 f2
  obtain ⟨i3, e3, -, hw3⟩ := DataW.trod_int Try.underlying3 f3
  obtain ⟨i4, e4, -, hw4⟩ := DataW.trod_int Try.underlying3 f4
  have hbk : Rows.uptoBulk y0.1 ≤ 1048576 := by
    simp only [List.map_cons, List.map_nil, Rows.uptoBulk, Rows.uptoBulkAll] at hN
    omega
  obtain ⟨a1, c1', ks, e0, k1, k2, k3, k4⟩ := open_row 38 37 4 (by decide) Try.underlying38 c37 (fun _ : Ir => 1) (fun (e : Ir) cs' => cs' = e.cells ∧ e.Ok) n _ _ f0 1048576 hbk (fun m hm cs' y hy hby => open_ir m cs' y hy)
  simp at e0 e1 e2 e3 e4
  subst e0 e1 e2 e3 e4
  exact ⟨⟨a1, c1', ⟨ks, i1, i2, i3, i4⟩⟩, ⟨rfl, row_open k1 k2 k4, i64_of hw1, i64_of hw2, i64_of hw3, i64_of hw4⟩, bulk_one _⟩
theorem open_bt (fuel : Nat) (cs : List Value) (x : DataW H × List MemPlace) (h : DataW.trod enc Try.prog w 0 sp held fuel 45 cs = some x) (hN : Rows.uptoBulk x.1 ≤ 1048576) : ∃ v : BT, (cs = v.cells ∧ v.In w.heap.size w) ∧ 1 ≤ Rows.uptoBulk x.1 := by
  obtain ⟨xs, n, hf, rfl, hl, hlen, hx⟩ := DataW.trod_struct Try.underlying45 h
  rw [c45] at hl
  obtain ⟨z0, z1, z2, rfl⟩ := len3 hl
  obtain ⟨y0, y1, y2, rfl⟩ := len3 (show xs.length = 3 from hlen)
  have f0 := hx 0 { name := "Locals", type := 22, offset := 0, embedded := false, tag := "", pkgPath := "", byteOffset := 0 } rfl
  dsimp only at f0
  rw [c22] at f0
  have f0 : DataW.trod enc Try.prog w 0 sp held n 22 [z0] = some y0 := f0
  have f1 := hx 1 { name := "Stack", type := 3, offset := 1, embedded := false, tag := "", pkgPath := "", byteOffset := 24 } rfl
  dsimp only at f1
  rw [c3] at f1
  have f1 : DataW.trod enc Try.prog w 0 sp held n 3 [z1] = some y1 := f1
  have f2 := hx 2 { name := "Nodes", type := 43, offset := 2, embedded := false, tag := "", pkgPath := "", byteOffset := 32 } rfl
  dsimp only at f2
  rw [c43] at f2
  have f2 : DataW.trod enc Try.prog w 0 sp held n 43 [z2] = some y2 := f2
  obtain ⟨i1, e1, -, hw1⟩ := DataW.trod_int Try.underlying3 f1
  have hbk : Rows.uptoBulk y0.1 ≤ 1048576 ∧ Rows.uptoBulk y2.1 ≤ 1048576 := by
    simp only [List.map_cons, List.map_nil, Rows.uptoBulk, Rows.uptoBulkAll] at hN
    omega
  obtain ⟨a1, c1', ks, e0, k1, k2, k3, k4⟩ := open_row 22 35 2 (by decide) Try.underlying22 c35 (fun _ : Vl => 1) (fun (e : Vl) cs' => cs' = e.cells ∧ e.Ok) n _ _ f0 1048576 hbk.1 (fun m hm cs' y hy hby => open_vl m cs' y hy)
  obtain ⟨a2, c2', ns, e2, l1, l2, l3, l4⟩ := open_row 43 49 5 (by decide) Try.underlying43 c49 (fun _ : NT => 1) (fun (e : NT) cs' => cs' = e.cells ∧ e.In w.heap.size w) n _ _ f2 1048576 hbk.2 (fun m hm cs' y hy hby => open_nt m cs' y hy hby)
  simp at e0 e1 e2
  subst e0 e1 e2
  exact ⟨⟨a1, c1', ks, i1, a2, c2', ns⟩, ⟨rfl, row_open k1 k2 k4, i64_of hw1, row_open l1 l2 l4⟩, bulk_one _⟩
theorem open_ct (fuel : Nat) (cs : List Value) (x : DataW H × List MemPlace) (h : DataW.trod enc Try.prog w 0 sp held fuel 25 cs = some x) (hN : Rows.uptoBulk x.1 ≤ 1048576) : ∃ v : CT, (cs = v.cells ∧ v.In w.heap.size w) ∧ 1 ≤ Rows.uptoBulk x.1 := by
  obtain ⟨xs, n, hf, rfl, hl, hlen, hx⟩ := DataW.trod_struct Try.underlying25 h
  rw [c25] at hl
  obtain ⟨z0, z1, z2, rfl⟩ := len3 hl
  obtain ⟨y0, y1, y2, rfl⟩ := len3 (show xs.length = 3 from hlen)
  have f0 := hx 0 { name := "Shared", type := 22, offset := 0, embedded := false, tag := "", pkgPath := "", byteOffset := 0 } rfl
  dsimp only at f0
  rw [c22] at f0
  have f0 : DataW.trod enc Try.prog w 0 sp held n 22 [z0] = some y0 := f0
  have f1 := hx 1 { name := "Mutexes", type := 3, offset := 1, embedded := false, tag := "", pkgPath := "", byteOffset := 24 } rfl
  dsimp only at f1
  rw [c3] at f1
  have f1 : DataW.trod enc Try.prog w 0 sp held n 3 [z1] = some y1 := f1
  have f2 := hx 2 { name := "Bodies", type := 23, offset := 2, embedded := false, tag := "", pkgPath := "", byteOffset := 32 } rfl
  dsimp only at f2
  rw [c23] at f2
  have f2 : DataW.trod enc Try.prog w 0 sp held n 23 [z2] = some y2 := f2
  obtain ⟨i1, e1, -, hw1⟩ := DataW.trod_int Try.underlying3 f1
  have hbk : Rows.uptoBulk y0.1 ≤ 1048576 ∧ Rows.uptoBulk y2.1 ≤ 1048576 := by
    simp only [List.map_cons, List.map_nil, Rows.uptoBulk, Rows.uptoBulkAll] at hN
    omega
  obtain ⟨a1, c1', ks, e0, k1, k2, k3, k4⟩ := open_row 22 35 2 (by decide) Try.underlying22 c35 (fun _ : Vl => 1) (fun (e : Vl) cs' => cs' = e.cells ∧ e.Ok) n _ _ f0 1048576 hbk.1 (fun m hm cs' y hy hby => open_vl m cs' y hy)
  obtain ⟨a2, c2', ns, e2, l1, l2, l3, l4⟩ := open_row 23 45 3 (by decide) Try.underlying23 c45 (fun _ : BT => 1) (fun (e : BT) cs' => cs' = e.cells ∧ e.In w.heap.size w) n _ _ f2 1048576 hbk.2 (fun m hm cs' y hy hby => open_bt m cs' y hy hby)
  simp at e0 e1 e2
  subst e0 e1 e2
  exact ⟨⟨a1, c1', ks, i1, a2, c2', ns⟩, ⟨rfl, row_open k1 k2 k4, i64_of hw1, row_open l1 l2 l4⟩, bulk_one _⟩
theorem open_u8 (fuel : Nat) (cs : List Value) (x : DataW H × List MemPlace) (h : DataW.trod enc Try.prog w 0 sp held fuel 5 cs = some x) : ∃ v : UInt8, cs = [.int .u8 (v.toNat : Int)] ∧ 1 ≤ Rows.uptoBulk x.1 := by
  obtain ⟨z, e, -, hw⟩ := DataW.trod_int Try.underlying5 h
  obtain ⟨n, rfl, hn⟩ := u8_of hw
  exact ⟨UInt8.ofNat n, by rw [e]; simp; omega, bulk_one _⟩
theorem open_by (fuel : Nat) (cs : List Value) (x : DataW H × List MemPlace) (h : DataW.trod enc Try.prog w 0 sp held fuel 42 cs = some x) (hN : Rows.uptoBulk x.1 ≤ 1048576) : ∃ (a : Option Addr) (c : Nat) (bs : List UInt8), cs = [.slice a bs.length c] ∧ bs.length ≤ 1048576 ∧ bs.length ≤ c ∧ Row w a bs := by
  obtain ⟨a1, c1', ks, e0, k1, k2, k3, k4⟩ := open_row 42 5 1 (by decide) Try.underlying42 c5 (fun _ : UInt8 => 1) (fun (e : UInt8) cs' => cs' = [.int .u8 (e.toNat : Int)]) fuel _ _ h 1048576 hN (fun m hm cs' y hy hby => open_u8 m cs' y hy)
  refine ⟨a1, c1', ks, e0, k1, k2, ?_⟩
  rcases k4 with k4 | ⟨g, o, ha, hg, hr⟩
  · exact .inl k4
  · refine .inr ⟨g, o, ha, fun j hj => ?_⟩
    obtain ⟨cs', h1, rfl⟩ := hr j ks[j] (List.getElem?_eq_getElem hj)
    have := h1 0 _ rfl
    simpa [List.getD, List.getElem?_eq_getElem hj] using this
end
end Go.Proofs.Ytefklmckkigllaa
