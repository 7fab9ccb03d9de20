/- Joined texts of the proof. -/
import Derived.Test.YtcmahiphfpgadaaGreatDoorJ9
import Derived.Test.YtcmahiphfpgadaaGreatDoorJ13
import Derived.ProofKit
import Derived.OpenShut
import Derived.Deep.Slices
import Derived.Lib.ItoaLen
import Derived.Test.YtcmahiphfpgadaaGreatDoorJ10

/- Trees that came in are opened. -/
namespace Go.Proofs.YtcmahiphfpgadaaGreatDoor
open Go.ChangeShapes Go.WideShapes Go.ChangeAt Go.RowKit
set_option linter.unusedVariables false

theorem bulk_one {H : Type} (d : DataW H) : 1 ≤ Rows.uptoBulk d := by
 cases d with
 | lit l => cases l <;> simp [Rows.uptoBulk]
 | nil => simp [Rows.uptoBulk]
 | ptr d => simp [Rows.uptoBulk]
 | slice elems spare => simp [Rows.uptoBulk]
 | agg parts => simp [Rows.uptoBulk]
 | iface t d => simp [Rows.uptoBulk]
 | map entries => simp [Rows.uptoBulk]
 | held h => simp [Rows.uptoBulk]
theorem bulk_mem {H : Type} {d : DataW H} {l : List (DataW H)} (h : d ∈ l) : Rows.uptoBulk d ≤ Rows.uptoBulkAll l := by
 induction l with
 | nil => cases h
 | cons x r ih =>
  simp only [Rows.uptoBulkAll]
  rcases List.mem_cons.1 h with rfl | h
  ·omega
  ·have := ih h; omega
theorem bulk_len {H : Type} (l : List (DataW H)) : l.length ≤ Rows.uptoBulkAll l := by
 induction l with
 | nil => simp
 | cons x r ih => have := bulk_one x; simp only [Rows.uptoBulkAll, List.length_cons]; omega

/-- For each of a list one that fits. -/
theorem choose_list {α β : Type} : ∀ (l : List β) (R : Nat → β → α → Prop), (∀ i b, l[i]? = some b → ∃ a, R i b a) → ∃ vs : List α, vs.length = l.length ∧ ∀ i b a, l[i]? = some b → vs[i]? = some a → R i b a
 | [], R, h => ⟨[], rfl, fun i b a hb => by simp at hb⟩
 | x :: r, R, h => by
  obtain ⟨a, ha⟩ := h 0 x rfl
  obtain ⟨vs, hl, hv⟩ := choose_list r (fun i => R (i + 1)) (fun i b hb => h (i + 1) b (by simpa using hb))
  refine ⟨a :: vs, by simp [hl], fun i b c hb hc => ?_⟩
  cases i with
  | zero => simp at hb hc; subst hb hc; exact ha
  | succ i => exact hv i b c (by simpa using hb) (by simpa using hc)

theorem sum_bulk {α H : Type} (wt : α → Nat) : ∀ (vs : List α) (l : List (DataW H)), vs.length = l.length → (∀ (i : Nat) (v : α) (d : DataW H), vs[i]? = some v → l[i]? = some d → wt v ≤ Rows.uptoBulk d) → (vs.map wt).sum ≤ Rows.uptoBulkAll l
 | [], [], _, _ => by simp
 | [], d :: r, h, _ => by simp at h
 | v :: vs, [], h, _ => by simp at h
 | v :: vs, d :: r, h, hw => by
  have h0 := hw 0 v d rfl rfl
  have := sum_bulk wt vs r (by simpa using h) (fun i a b ha hb => hw (i + 1) a b (by simpa using ha) (by simpa using hb))
  simp only [List.map_cons, List.sum_cons, Rows.uptoBulkAll]
  omega

section
variable {H : Type} {enc : TypeId × Value → H} {w : World} {sp : Nat → Bool} {held : Bool}

/-- A row that came in. -/
theorem open_row {α : Type} (t e k : Nat) (hk : 0 < k) (ht : Tryz.prog.underlying t = some (.slice e)) (hc : Tryz.prog.cellsOf e = k) (wt : α → Nat) (G : α → List Value → Prop)
  (fuel : Nat) (cs : List Value) (x : DataW H × List MemPlace) (h : DataW.trod enc Tryz.prog w 0 sp held fuel t cs = some x) (N : Nat) (hN : Rows.uptoBulk x.1 ≤ N)
  (ho : ∀ n, n < fuel → ∀ (cs' : List Value) (y : DataW H × List MemPlace), DataW.trod enc Tryz.prog w 0 sp held n e cs' = some y → Rows.uptoBulk y.1 ≤ N → ∃ v : α, G v cs' ∧ wt v ≤ Rows.uptoBulk y.1) :
  ∃ (a : Option Addr) (c : Nat) (vs : List α), cs = [.slice a vs.length c] ∧ vs.length ≤ N ∧ vs.length ≤ c ∧ (vs.map wt).sum + 1 ≤ Rows.uptoBulk x.1 ∧ (vs = [] ∨ ∃ g o, a = some ⟨g, o, none⟩ ∧ g < w.heap.size ∧ ∀ (i : Nat) (v : α), vs[i]? = some v → ∃ cs', w.rangeAt g (o + i * k) cs' ∧ G v cs') := by
 rcases DataW.trod_slice ht h with ⟨rfl, rfl⟩ | ⟨ad, len, cap, elems, rest, n, hf, rfl, rfl, hb, hl, hm, hlen, hel, -, -⟩
 ·exact ⟨none, 0, [], rfl, by simp, by simp, by simp [Rows.uptoBulk], .inl rfl⟩
 ·have hbk : Rows.uptoBulkAll (elems.map (·.1)) + 1 ≤ Rows.uptoBulk (DataW.slice (elems.map (·.1)) (rest.map (·.1))) := by
   simp only [Rows.uptoBulk]
   omega
  rw [hc] at hel
  obtain ⟨vs, hvl, hv⟩ := choose_list elems (fun i b (v : α) => ∃ cs', w.cells? 0 (ad.add (i * k)) k = some cs' ∧ G v cs' ∧ wt v ≤ Rows.uptoBulk b.1) (fun i b hib => by
   have hi : i < len := by
    have := (List.getElem?_eq_some_iff.1 hib).1
    omega
   have h0 := hel i hi
   rw [hib] at h0
   obtain ⟨cs', h1, h2⟩ := Option.bind_eq_some_iff.1 h0
   have hbb : Rows.uptoBulk b.1 ≤ N := by
    have := bulk_mem (List.mem_map_of_mem (f := (·.1)) (List.mem_of_getElem? hib))
    simp only at hN
    omega
   obtain ⟨v, g1, g2⟩ := ho n (by omega) cs' b h2 hbb
   exact ⟨v, cs', h1, g1, g2⟩)
  have hlv : vs.length = len := by rw [hvl, hlen]
  have hsum : (vs.map wt).sum ≤ Rows.uptoBulkAll (elems.map (·.1)) := sum_bulk wt vs _ (by simp [hvl]) (fun i v d h1 h2 => by
   rw [List.getElem?_map] at h2
   obtain ⟨b, hb1, rfl⟩ := Option.map_eq_some_iff.1 h2
   exact (hv i b v hb1 h1).choose_spec.2.2)
  have hln := bulk_len (elems.map (·.1))
  rw [List.length_map] at hln
  refine ⟨some ad, cap, vs, by rw [hlv], by simp only at hN; omega, by omega, Nat.le_trans (Nat.add_le_add_right hsum 1) hbk, ?_⟩
  cases vs with
  | nil => exact .inl rfl
  | cons v0 vr =>
   right
   obtain ⟨g, o, spot⟩ := ad
   have hcell : ∀ (i : Nat) (v : α), (v0 :: vr)[i]? = some v → ∃ cs', w.cells? 0 ((⟨g, o, spot⟩ : Addr).add (i * k)) k = some cs' ∧ G v cs' := fun i v hi => by
    have hlt := (List.getElem?_eq_some_iff.1 hi).1
    obtain ⟨cs', h1, h2, -⟩ := hv i (elems[i]'(by omega)) v (List.getElem?_eq_getElem _) hi
    exact ⟨cs', h1, h2⟩
   obtain ⟨cs0, hc0, -⟩ := hcell 0 v0 rfl
   obtain ⟨_, hl0, hcc⟩ := World.cells?_some hc0
   have hv0 : ∃ z, w.cell? ⟨g, o, spot⟩ = some z := by
    have := hcc 0 hk
    rw [Nat.zero_mul] at this
    have hcs : 0 < cs0.length := by omega
    rw [List.getElem?_eq_getElem hcs] at this
    exact ⟨_, by simpa [Addr.add] using this⟩
   obtain ⟨z, hz⟩ := hv0
   have hspot : spot = none := World.cell?_spot hz
   subst hspot
   refine ⟨g, o, rfl, lt_of_cell hz, fun i v hi => ?_⟩
   obtain ⟨cs', h1, h2⟩ := hcell i v hi
   refine ⟨cs', fun j u hj => ?_, h2⟩
   obtain ⟨_, hl1, hcc1⟩ := World.cells?_some h1
   have hjl := (List.getElem?_eq_some_iff.1 hj).1
   have := hcc1 j (by omega)
   rw [hj, Addr.add_mid, Addr.add_mid] at this
   exact this
end
end Go.Proofs.YtcmahiphfpgadaaGreatDoor

/- Expressions, statements and programs that came in are opened. -/
namespace Go.Proofs.YtcmahiphfpgadaaGreatDoor
open Go.ChangeShapes Go.WideShapes Go.ChangeAt Go.RowKit
set_option linter.unusedVariables false

theorem c27 : Tryz.prog.cellsOf 27 = 1 := by kernel_rfl
theorem c28 : Tryz.prog.cellsOf 28 = 1 := by kernel_rfl
theorem c29 : Tryz.prog.cellsOf 29 = 1 := by kernel_rfl
theorem c31 : Tryz.prog.cellsOf 31 = 2 := by kernel_rfl
theorem c9 : Tryz.prog.cellsOf 9 = 1 := by kernel_rfl
theorem c3 : Tryz.prog.cellsOf 3 = 1 := by kernel_rfl
theorem c32 : Tryz.prog.cellsOf 32 = 1 := by kernel_rfl
theorem c34 : Tryz.prog.cellsOf 34 = 5 := by kernel_rfl
theorem c57 : Tryz.prog.cellsOf 57 = 1 := by kernel_rfl
theorem c87 : Tryz.prog.cellsOf 87 = 9 := by kernel_rfl
theorem c22 : Tryz.prog.cellsOf 22 = 1 := by kernel_rfl
theorem c23 : Tryz.prog.cellsOf 23 = 1 := by kernel_rfl
theorem c24 : Tryz.prog.cellsOf 24 = 1 := by kernel_rfl
theorem c56 : Tryz.prog.cellsOf 56 = 3 := by kernel_rfl
theorem c59 : Tryz.prog.cellsOf 59 = 3 := by kernel_rfl
theorem c26 : Tryz.prog.cellsOf 26 = 3 := by kernel_rfl

theorem u8_of {x : Int} (h : (Lit.int .u8 x).wf = true) : ∃ n : Nat, x = (n : Int) ∧ n < 256 := by
 have : 0 ≤ x ∧ x ≤ 255 := by simpa [Lit.wf, IntKind.min, IntKind.max, IntKind.signed, IntKind.bits] using h
 exact ⟨x.toNat, by omega, by omega⟩
theorem u64_of {x : Int} (h : (Lit.int .u64 x).wf = true) : ∃ n : Nat, x = (n : Int) ∧ n < 18446744073709551616 := by
 have : 0 ≤ x ∧ x ≤ 18446744073709551615 := by simpa [Lit.wf, IntKind.min, IntKind.max, IntKind.signed, IntKind.bits] using h
 exact ⟨x.toNat, by omega, by omega⟩
theorem i64_of {x : Int} (h : (Lit.int .i64 x).wf = true) : -9223372036854775808 ≤ x ∧ x ≤ 9223372036854775807 := by
 simpa [Lit.wf, IntKind.min, IntKind.max, IntKind.signed, IntKind.bits] using h

theorem len2 {α : Type} : ∀ {l : List α}, l.length = 2 → ∃ a b, l = [a, b]
 | [a, b], _ => ⟨a, b, rfl⟩
theorem len3 {α : Type} : ∀ {l : List α}, l.length = 3 → ∃ a b c, l = [a, b, c]
 | [a, b, c], _ => ⟨a, b, c, rfl⟩
theorem len4 {α : Type} : ∀ {l : List α}, l.length = 4 → ∃ a b c d, l = [a, b, c, d]
 | [a, b, c, d], _ => ⟨a, b, c, d, rfl⟩
theorem len5 {α : Type} : ∀ {l : List α}, l.length = 5 → ∃ a b c d e, l = [a, b, c, d, e]
 | [a, b, c, d, e], _ => ⟨a, b, c, d, e, rfl⟩
theorem len9 {α : Type} : ∀ {l : List α}, l.length = 9 → ∃ a b c d e f g h i, l = [a, b, c, d, e, f, g, h, i]
 | [a, b, c, d, e, f, g, h, i], _ => ⟨a, b, c, d, e, f, g, h, i, rfl⟩

section
variable {H : Type} {enc : TypeId × Value → H} {w : World} {sp : Nat → Bool} {held : Bool}

theorem open_val (fuel : Nat) (cs : List Value) (x : DataW H × List MemPlace) (h : DataW.trod enc Tryz.prog w 0 sp held fuel 31 cs = some x) : ∃ t b : Nat, cs = [.int .u8 (t : Int), .int .u64 (b : Int)] ∧ t < 256 ∧ b < 18446744073709551616 := by
 obtain ⟨xs, n, hf, rfl, hl, hlen, hx⟩ := DataW.trod_struct Tryz.underlying31 h
 rw [c31] at hl
 obtain ⟨a, b, rfl⟩ := len2 hl
 obtain ⟨y0, y1, rfl⟩ := len2 (show xs.length = 2 from hlen)
 have f0 := hx 0 { name := "T", type := 28, offset := 0, embedded := false, tag := "", pkgPath := "", byteOffset := 0 } rfl
 dsimp only at f0
 rw [c28] at f0
 have f0 : DataW.trod enc Tryz.prog w 0 sp held n 28 [a] = some y0 := f0
 have f1 := hx 1 { name := "Bits", type := 29, offset := 1, embedded := false, tag := "", pkgPath := "", byteOffset := 8 } rfl
 dsimp only at f1
 rw [c29] at f1
 have f1 : DataW.trod enc Tryz.prog w 0 sp held n 29 [b] = some y1 := f1
 obtain ⟨t, e0, -, hw0⟩ := DataW.trod_int Tryz.underlying28 f0
 obtain ⟨b', e1, -, hw1⟩ := DataW.trod_int Tryz.underlying29 f1
 simp at e0 e1
 subst e0 e1
 obtain ⟨tn, rfl, ht⟩ := u8_of hw0
 obtain ⟨bn, rfl, hb⟩ := u64_of hw1
 exact ⟨tn, bn, rfl, ht, hb⟩

theorem exWs_sum : ∀ l : List ET, exWs (ET.exs l) = (l.map fun e => exW e.ex).sum
 | [] => rfl
 | e :: r => by
  rw [ET.exs, exWs, exWs_sum r]
  rfl
theorem exOks_of : ∀ l : List ET, (∀ e ∈ l, exOk e.ex) → exOks (ET.exs l)
 | [], _ => trivial
 | e :: r, h => by
  rw [ET.exs]
  unfold exOks
  exact ⟨h e List.mem_cons_self, exOks_of r fun x hx => h x (List.mem_cons_of_mem _ hx)⟩

/-- An expression that came in. -/
theorem open_expr : ∀ (F fuel : Nat), fuel < F → ∀ (cs : List Value) (x : DataW H × List MemPlace), DataW.trod enc Tryz.prog w 0 sp held fuel 34 cs = some x → Rows.uptoBulk x.1 ≤ 1048576 →
  ∃ e : ET, (cs = e.cells ∧ e.In w.heap.size w ∧ exOk e.ex) ∧ exW e.ex ≤ Rows.uptoBulk x.1 := by
 intro F
 induction F with
 | zero => intro fuel h; omega
 | succ F ih =>
  intro fuel hF cs x h hN
  obtain ⟨xs, n, hf, rfl, hl, hlen, hx⟩ := DataW.trod_struct Tryz.underlying34 h
  rw [c34] at hl
  obtain ⟨a0, a1, a2, a3, a4, rfl⟩ := len5 hl
  obtain ⟨y0, y1, y2, y3, rfl⟩ := len4 (show xs.length = 4 from hlen)
  have f0 := hx 0 { name := "Op", type := 27, offset := 0, embedded := false, tag := "", pkgPath := "", byteOffset := 0 } rfl
  dsimp only at f0
  rw [c27] at f0
  have f0 : DataW.trod enc Tryz.prog w 0 sp held n 27 [a0] = some y0 := f0
  have f1 := hx 1 { name := "Lit", type := 31, offset := 1, embedded := false, tag := "", pkgPath := "", byteOffset := 8 } rfl
  dsimp only at f1
  rw [c31] at f1
  have f1 : DataW.trod enc Tryz.prog w 0 sp held n 31 [a1, a2] = some y1 := f1
  have f2 := hx 2 { name := "Name", type := 9, offset := 3, embedded := false, tag := "", pkgPath := "", byteOffset := 24 } rfl
  dsimp only at f2
  rw [c9] at f2
  have f2 : DataW.trod enc Tryz.prog w 0 sp held n 9 [a3] = some y2 := f2
  have f3 := hx 3 { name := "Kids", type := 32, offset := 4, embedded := false, tag := "", pkgPath := "", byteOffset := 40 } rfl
  dsimp only at f3
  rw [c32] at f3
  have f3 : DataW.trod enc Tryz.prog w 0 sp held n 32 [a4] = some y3 := f3
  obtain ⟨op, e0, -, hw0⟩ := DataW.trod_int Tryz.underlying27 f0
  obtain ⟨t, b, e1, ht, hb⟩ := open_val _ _ _ f1
  obtain ⟨nm, e2, e2', -⟩ := DataW.trod_string Tryz.underlying9 f2
  simp at e0 e1 e2
  subst e0 e2
  obtain ⟨rfl, rfl⟩ := e1
  obtain ⟨opn, rfl, hop⟩ := u8_of hw0
  have hbk : Rows.uptoBulk y0.1 + (Rows.uptoBulk y1.1 + (Rows.uptoBulk y2.1 + Rows.uptoBulk y3.1)) + 1 ≤ 1048576 := by
   simpa [Rows.uptoBulk, Rows.uptoBulkAll] using hN
  have hy2 : Rows.uptoBulk y2.1 = nm.data.toList.length + 1 := by rw [e2']; simp [Rows.uptoBulk]
  obtain ⟨a, c, ks, e3, k1, k2, k3, k4⟩ := open_row 32 34 5 (by decide) Tryz.underlying32 c34 (fun e : ET => exW e.ex) (fun (e : ET) cs' => cs' = e.cells ∧ e.In w.heap.size w ∧ exOk e.ex) n _ _ f3 1048576 (by omega) (fun m hm cs' y hy hby => ih m (by omega) cs' y hy hby)
  simp at e3
  subst e3
  refine ⟨.mk opn t b nm a c ks, ⟨rfl, ?_, ?_⟩, ?_⟩
  ·unfold ET.In
   refine ⟨hop, ht, hb, k1, k2, ?_⟩
   rcases k4 with k4 | ⟨g, o, ha, hg, hr⟩
   ·exact .inl k4
   ·refine .inr ⟨g, o, ha, hg, ET.Row.of fun i e he => ?_⟩
    obtain ⟨cs', h1, rfl, h3, -⟩ := hr i e he
    exact ⟨h1, h3⟩
  ·show exOk (.mk opn t b nm.data.toList (ET.exs ks))
   unfold exOk
   refine ⟨hb, exOks_of ks fun e he => ?_⟩
   obtain ⟨i, hi⟩ := List.mem_iff_getElem?.1 he
   rcases k4 with k4 | ⟨g, o, ha, hg, hr⟩
   ·rw [k4] at he; cases he
   ·obtain ⟨cs', -, -, -, h4⟩ := hr i e hi
    exact h4
  ·show exW (.mk opn t b nm.data.toList (ET.exs ks)) ≤ _
   rw [exW, exWs_sum]
   have := bulk_one y0.1
   have := bulk_one y1.1
   simp only [List.map_cons, List.map_nil, Rows.uptoBulk, Rows.uptoBulkAll]
   omega

theorem stWs_sum : ∀ l : List ST, stWs (ST.sts l) = (l.map fun e => stW e.st).sum
 | [] => rfl
 | e :: r => by
  rw [ST.sts, stWs, stWs_sum r]
  rfl
theorem stOks_of : ∀ l : List ST, (∀ e ∈ l, stOk e.st) → stOks (ST.sts l)
 | [], _ => trivial
 | e :: r, h => by
  rw [ST.sts]
  unfold stOks
  exact ⟨h e List.mem_cons_self, stOks_of r fun x hx => h x (List.mem_cons_of_mem _ hx)⟩

theorem rowS_open {N : Nat} {a : Option Addr} {c : Nat} {ks : List ST} (k1 : ks.length ≤ 1048576) (k2 : ks.length ≤ c) (k4 : ks = [] ∨ ∃ g o, a = some ⟨g, o, none⟩ ∧ g < w.heap.size ∧ ∀ (i : Nat) (v : ST), ks[i]? = some v → ∃ cs', w.rangeAt g (o + i * 9) cs' ∧ (cs' = v.cells ∧ v.In w.heap.size w ∧ stOk v.st)) : RowS w.heap.size w a c ks ∧ ∀ e ∈ ks, stOk e.st := by
 refine ⟨⟨k1, k2, ?_⟩, fun e he => ?_⟩
 ·rcases k4 with k4 | ⟨g, o, ha, hg, hr⟩
  ·exact .inl k4
  ·refine .inr ⟨g, o, ha, hg, ST.Row.of fun i e he => ?_⟩
   obtain ⟨cs', h1, rfl, h3, -⟩ := hr i e he
   exact ⟨h1, h3⟩
 ·obtain ⟨i, hi⟩ := List.mem_iff_getElem?.1 he
  rcases k4 with k4 | ⟨g, o, ha, hg, hr⟩
  ·rw [k4] at he; cases he
  ·obtain ⟨cs', -, -, -, h4⟩ := hr i e hi
   exact h4

/-- A statement that came in. -/
theorem open_stmt : ∀ (F fuel : Nat), fuel < F → ∀ (cs : List Value) (x : DataW H × List MemPlace), DataW.trod enc Tryz.prog w 0 sp held fuel 87 cs = some x → Rows.uptoBulk x.1 ≤ 1048576 →
  ∃ e : ST, (cs = e.cells ∧ e.In w.heap.size w ∧ stOk e.st) ∧ stW e.st ≤ Rows.uptoBulk x.1 := by
 intro F
 induction F with
 | zero => intro fuel h; omega
 | succ F ih =>
  intro fuel hF cs x h hN
  obtain ⟨xs, n, hf, rfl, hl, hlen, hx⟩ := DataW.trod_struct Tryz.underlying87 h
  rw [c87] at hl
  obtain ⟨a0, a1, a2, a3, a4, a5, a6, a7, a8, rfl⟩ := len9 hl
  obtain ⟨y0, y1, y2, y3, y4, rfl⟩ := len5 (show xs.length = 5 from hlen)
  have f0 := hx 0 { name := "Kind", type := 3, offset := 0, embedded := false, tag := "", pkgPath := "", byteOffset := 0 } rfl
  dsimp only at f0
  rw [c3] at f0
  have f0 : DataW.trod enc Tryz.prog w 0 sp held n 3 [a0] = some y0 := f0
  have f1 := hx 1 { name := "Name", type := 9, offset := 1, embedded := false, tag := "", pkgPath := "", byteOffset := 8 } rfl
  dsimp only at f1
  rw [c9] at f1
  have f1 : DataW.trod enc Tryz.prog w 0 sp held n 9 [a1] = some y1 := f1
  have f2 := hx 2 { name := "E", type := 34, offset := 2, embedded := false, tag := "", pkgPath := "", byteOffset := 24 } rfl
  dsimp only at f2
  rw [c34] at f2
  have f2 : DataW.trod enc Tryz.prog w 0 sp held n 34 [a2, a3, a4, a5, a6] = some y2 := f2
  have f3 := hx 3 { name := "Body", type := 57, offset := 7, embedded := false, tag := "", pkgPath := "", byteOffset := 88 } rfl
  dsimp only at f3
  rw [c57] at f3
  have f3 : DataW.trod enc Tryz.prog w 0 sp held n 57 [a7] = some y3 := f3
  have f4 := hx 4 { name := "Else", type := 57, offset := 8, embedded := false, tag := "", pkgPath := "", byteOffset := 112 } rfl
  dsimp only at f4
  rw [c57] at f4
  have f4 : DataW.trod enc Tryz.prog w 0 sp held n 57 [a8] = some y4 := f4
  obtain ⟨k, e0, -, hw0⟩ := DataW.trod_int Tryz.underlying3 f0
  obtain ⟨nm, e1, e1', -⟩ := DataW.trod_string Tryz.underlying9 f1
  simp at e0 e1
  subst e0 e1
  have hbk : Rows.uptoBulk y0.1 + (Rows.uptoBulk y1.1 + (Rows.uptoBulk y2.1 + (Rows.uptoBulk y3.1 + Rows.uptoBulk y4.1))) + 1 ≤ 1048576 := by
   simpa [Rows.uptoBulk, Rows.uptoBulkAll] using hN
  have hy1 : Rows.uptoBulk y1.1 = nm.data.toList.length + 1 := by rw [e1']; simp [Rows.uptoBulk]
  obtain ⟨e, ⟨ee, hei, hek⟩, hew⟩ := open_expr (n + 1) n (by omega) _ _ f2 (by omega)
  obtain ⟨b1, d1, ks, e3, k1, k2, k3, k4⟩ := open_row 57 87 9 (by decide) Tryz.underlying57 c87 (fun e : ST => stW e.st) (fun (e : ST) cs' => cs' = e.cells ∧ e.In w.heap.size w ∧ stOk e.st) n _ _ f3 1048576 (by omega) (fun m hm cs' y hy hby => ih m (by omega) cs' y hy hby)
  obtain ⟨b2, d2, ls, e4, l1, l2, l3, l4⟩ := open_row 57 87 9 (by decide) Tryz.underlying57 c87 (fun e : ST => stW e.st) (fun (e : ST) cs' => cs' = e.cells ∧ e.In w.heap.size w ∧ stOk e.st) n _ _ f4 1048576 (by omega) (fun m hm cs' y hy hby => ih m (by omega) cs' y hy hby)
  simp at e3 e4
  subst e3 e4
  obtain ⟨r1, o1⟩ := rowS_open (N := 0) k1 k2 k4
  obtain ⟨r2, o2⟩ := rowS_open (N := 0) l1 l2 l4
  refine ⟨.mk k nm e b1 d1 ks b2 d2 ls, ⟨?_, ?_, ?_⟩, ?_⟩
  ·show _ = st9 k nm e.cells (.slice b1 ks.length d1) (.slice b2 ls.length d2)
   rw [← ee]
   rfl
  ·unfold ST.In
   exact ⟨i64_of hw0, hei, r1, r2⟩
  ·show stOk (.mk k nm.data.toList e.ex (ST.sts ks) (ST.sts ls))
   unfold stOk
   exact ⟨hek, stOks_of ks o1, stOks_of ls o2⟩
  ·show stW (.mk k nm.data.toList e.ex (ST.sts ks) (ST.sts ls)) ≤ _
   rw [stW, stWs_sum, stWs_sum]
   have := bulk_one y0.1
   simp only [List.map_cons, List.map_nil, Rows.uptoBulk, Rows.uptoBulkAll]
   omega
end
end Go.Proofs.YtcmahiphfpgadaaGreatDoor

/- Programs that came in are opened. -/
namespace Go.Proofs.YtcmahiphfpgadaaGreatDoor
open Go.ChangeShapes Go.WideShapes Go.ChangeAt Go.RowKit
set_option linter.unusedVariables false

def vrW (v : Vr) : Nat := v.nm.length + 1
def thW (t : Th) : Nat := t.nm.length + 1 + (t.locals.map vrW).sum + stWs t.body
def pgW (p : Pg) : Nat := (p.shared.map vrW).sum + (p.mutexes.map fun m => m.length + 1).sum + (p.threads.map thW).sum

section
variable {H : Type} {enc : TypeId × Value → H} {w : World} {sp : Nat → Bool} {held : Bool}

theorem open_vr (fuel : Nat) (cs : List Value) (x : DataW H × List MemPlace) (h : DataW.trod enc Tryz.prog w 0 sp held fuel 56 cs = some x) : ∃ v : VT, (cs = v.cells ∧ v.In w.heap.size w ∧ vrOk v.vr) ∧ vrW v.vr ≤ Rows.uptoBulk x.1 := by
 obtain ⟨xs, n, hf, rfl, hl, hlen, hx⟩ := DataW.trod_struct Tryz.underlying56 h
 rw [c56] at hl
 obtain ⟨a, b, c, rfl⟩ := len3 hl
 obtain ⟨y0, y1, rfl⟩ := len2 (show xs.length = 2 from hlen)
 have f0 := hx 0 { name := "Name", type := 9, offset := 0, embedded := false, tag := "", pkgPath := "", byteOffset := 0 } rfl
 dsimp only at f0
 rw [c9] at f0
 have f0 : DataW.trod enc Tryz.prog w 0 sp held n 9 [a] = some y0 := f0
 have f1 := hx 1 { name := "First", type := 31, offset := 1, embedded := false, tag := "", pkgPath := "", byteOffset := 16 } rfl
 dsimp only at f1
 rw [c31] at f1
 have f1 : DataW.trod enc Tryz.prog w 0 sp held n 31 [b, c] = some y1 := f1
 obtain ⟨nm, e0, e0', -⟩ := DataW.trod_string Tryz.underlying9 f0
 obtain ⟨t, b', e1, ht, hb⟩ := open_val _ _ _ f1
 simp at e0 e1
 subst e0
 obtain ⟨rfl, rfl⟩ := e1
 refine ⟨⟨nm, t, b'⟩, ⟨rfl, ⟨ht, hb⟩, hb⟩, ?_⟩
 have hy : Rows.uptoBulk y0.1 = nm.data.toList.length + 1 := by rw [e0']; simp [Rows.uptoBulk]
 show nm.data.toList.length + 1 ≤ _
 simp only [List.map_cons, List.map_nil, Rows.uptoBulk, Rows.uptoBulkAll]
 omega

theorem open_nm (fuel : Nat) (cs : List Value) (x : DataW H × List MemPlace) (h : DataW.trod enc Tryz.prog w 0 sp held fuel 9 cs = some x) : ∃ s : ByteArray, cs = [.string s] ∧ s.data.toList.length + 1 ≤ Rows.uptoBulk x.1 := by
 obtain ⟨s, e, e', -⟩ := DataW.trod_string Tryz.underlying9 h
 exact ⟨s, e, by rw [e']; simp [Rows.uptoBulk]⟩

theorem rowV_open {a : Option Addr} {c : Nat} {ks : List VT} (k1 : ks.length ≤ 1048576) (k2 : ks.length ≤ c) (k4 : ks = [] ∨ ∃ g o, a = some ⟨g, o, none⟩ ∧ g < w.heap.size ∧ ∀ (i : Nat) (v : VT), ks[i]? = some v → ∃ cs', w.rangeAt g (o + i * 3) cs' ∧ (cs' = v.cells ∧ v.In w.heap.size w ∧ vrOk v.vr)) : RowV w.heap.size w a c ks ∧ ∀ v ∈ ks.map VT.vr, vrOk v := by
 refine ⟨⟨k1, k2, ?_⟩, fun v hv => ?_⟩
 ·rcases k4 with k4 | ⟨g, o, ha, hg, hr⟩
  ·exact .inl k4
  ·refine .inr ⟨g, o, ha, hg, fun i e he => ?_⟩
   obtain ⟨cs', h1, rfl, h3, -⟩ := hr i e he
   exact ⟨h1, h3⟩
 ·obtain ⟨e, he, rfl⟩ := List.mem_map.1 hv
  obtain ⟨i, hi⟩ := List.mem_iff_getElem?.1 he
  rcases k4 with k4 | ⟨g, o, ha, hg, hr⟩
  ·rw [k4] at he; cases he
  ·obtain ⟨cs', -, -, -, h4⟩ := hr i e hi
   exact h4

theorem open_th (fuel : Nat) (cs : List Value) (x : DataW H × List MemPlace) (h : DataW.trod enc Tryz.prog w 0 sp held fuel 59 cs = some x) (hN : Rows.uptoBulk x.1 ≤ 1048576) : ∃ v : TT, (cs = v.cells ∧ v.In w.heap.size w ∧ thOk v.th) ∧ thW v.th ≤ Rows.uptoBulk x.1 := by
 obtain ⟨xs, n, hf, rfl, hl, hlen, hx⟩ := DataW.trod_struct Tryz.underlying59 h
 rw [c59] at hl
 obtain ⟨a, b, c, rfl⟩ := len3 hl
 obtain ⟨y0, y1, y2, rfl⟩ := len3 (show xs.length = 3 from hlen)
 have f0 := hx 0 { name := "Name", type := 9, offset := 0, embedded := false, tag := "", pkgPath := "", byteOffset := 0 } rfl
 dsimp only at f0
 rw [c9] at f0
 have f0 : DataW.trod enc Tryz.prog w 0 sp held n 9 [a] = some y0 := f0
 have f1 := hx 1 { name := "Locals", type := 22, offset := 1, embedded := false, tag := "", pkgPath := "", byteOffset := 16 } rfl
 dsimp only at f1
 rw [c22] at f1
 have f1 : DataW.trod enc Tryz.prog w 0 sp held n 22 [b] = some y1 := f1
 have f2 := hx 2 { name := "Body", type := 57, offset := 2, embedded := false, tag := "", pkgPath := "", byteOffset := 40 } rfl
 dsimp only at f2
 rw [c57] at f2
 have f2 : DataW.trod enc Tryz.prog w 0 sp held n 57 [c] = some y2 := f2
 obtain ⟨nm, e0, e0', -⟩ := DataW.trod_string Tryz.underlying9 f0
 have hbk : Rows.uptoBulk y0.1 + (Rows.uptoBulk y1.1 + Rows.uptoBulk y2.1) + 1 ≤ 1048576 := by
  simpa [Rows.uptoBulk, Rows.uptoBulkAll] using hN
 have hy : Rows.uptoBulk y0.1 = nm.data.toList.length + 1 := by rw [e0']; simp [Rows.uptoBulk]
 obtain ⟨a1, c1', ks, e1, k1, k2, k3, k4⟩ := open_row 22 56 3 (by decide) Tryz.underlying22 c56 (fun v : VT => vrW v.vr) (fun (e : VT) cs' => cs' = e.cells ∧ e.In w.heap.size w ∧ vrOk e.vr) n _ _ f1 1048576 (by omega) (fun m hm cs' y hy hby => open_vr m cs' y hy)
 obtain ⟨a2, c2', ls, e2, l1, l2, l3, l4⟩ := open_row 57 87 9 (by decide) Tryz.underlying57 c87 (fun e : ST => stW e.st) (fun (e : ST) cs' => cs' = e.cells ∧ e.In w.heap.size w ∧ stOk e.st) n _ _ f2 1048576 (by omega) (fun m hm cs' y hy hby => open_stmt (m + 1) m (by omega) cs' y hy hby)
 simp at e0 e1 e2
 subst e0 e1 e2
 obtain ⟨r1, o1⟩ := rowV_open k1 k2 k4
 obtain ⟨r2, o2⟩ := rowS_open (N := 0) l1 l2 l4
 refine ⟨⟨nm, a1, c1', ks, a2, c2', ls⟩, ⟨rfl, ⟨r1, r2⟩, o1, ?_⟩, ?_⟩
 ·show stOks (ls.map ST.st)
  rw [← ST.sts_eq]
  exact stOks_of ls o2
 ·show nm.data.toList.length + 1 + ((ks.map VT.vr).map vrW).sum + stWs (ls.map ST.st) ≤ _
  rw [← ST.sts_eq, stWs_sum, List.map_map]
  have e : (ks.map (vrW ∘ VT.vr)).sum = (ks.map fun v : VT => vrW v.vr).sum := rfl
  rw [e]
  simp only [List.map_cons, List.map_nil, Rows.uptoBulk, Rows.uptoBulkAll]
  omega

end
end Go.Proofs.YtcmahiphfpgadaaGreatDoor

/- How long texts can be. -/
namespace Go.Proofs.YtcmahiphfpgadaaGreatDoor
set_option linter.unusedVariables false

theorem textOf_len (h : Nat) : (textOf h).length ≤ 44 := by
 unfold textOf
 split
 ·simp
 ·split
  ·simp
  ·split
   ·simp
   ·split
    ·exact Nat.le_trans (litOf_len _ _) (by decide)
    ·split
     ·rename_i k n _
      have := litOf_len k n
      simp only [List.length_cons]
      omega
     ·simp only [List.length_cons, hex8_len]
      omega
theorem valTx_len (t b : Nat) (hb : b < 18446744073709551616) : (valTx t b).length ≤ 44 := by
 unfold valTx
 split
 ·have := Lib.itoa_length_le (sgn b) (by unfold sgn; split <;> omega) (by unfold sgn; split <;> omega)
  omega
 ·split
  ·cases decide (b = 1) <;> decide
  ·split
   ·exact textOf_len _
   ·simp
theorem sgT_len (op : Nat) : (sgT op).length ≤ 2 := by
 unfold sgT
 split <;> simp

mutual
theorem exT_len : ∀ e : Ex, exOk e → (exT e).length ≤ 60 * exW e
 | .mk op t b nm [], hk => by
  unfold exOk at hk
  rw [exT, exW, exWs]
  have := valTx_len t b hk.1
  split
  ·omega
  ·split
   ·omega
   ·simp
 | .mk op t b nm [x], hk => by
  unfold exOk exOks at hk
  have h1 := exT_len x hk.2.1
  have := valTx_len t b hk.1
  rw [exT, exW, exWs, exWs]
  split
  ·omega
  ·split
   ·omega
   ·split
    ·simp only [List.length_cons]; omega
    ·split
     ·simp only [List.length_cons]; omega
     ·split
      ·simp only [List.length_cons, List.length_append, List.length_nil]; omega
      ·split
       ·simp only [List.length_cons, List.length_append, List.length_nil]; omega
       ·simp
 | .mk op t b nm (x :: y :: r), hk => by
  unfold exOk exOks exOks at hk
  have h1 := exT_len x hk.2.1
  have h2 := exT_len y hk.2.2.1
  have h3 := sgT_len op
  have := valTx_len t b hk.1
  rw [exT, exW, exWs, exWs]
  split
  ·omega
  ·split
   ·omega
   ·simp only [List.length_cons, List.length_append, List.length_nil]
    omega
end

theorem arA (bl n : Nat) (hn : 1 ≤ n) : 100 * n + 4 * bl ≤ (100 + 4 * bl + 8 * n) * n := by
 have h1 : 4 * bl ≤ 4 * bl * n := Nat.le_mul_of_pos_right _ hn
 simp only [Nat.add_mul]
 omega
theorem arB (bl x nb nc m n : Nat) (hn : n = m + nb + nc) (hm : 1 + x ≤ m) : 20 + 60 * x + 3 * bl + ((100 + 4 * (bl + 2) + 8 * nb) * nb + (100 + 4 * (bl + 2) + 8 * nc) * nc) ≤ (100 + 4 * bl + 8 * n) * n := by
 subst hn
 have h1 : bl ≤ bl * m := Nat.le_mul_of_pos_right _ (by omega)
 have h2 : nb ≤ m * nb := Nat.le_mul_of_pos_left _ (by omega)
 have h3 : nc ≤ m * nc := Nat.le_mul_of_pos_left _ (by omega)
 have e1 : nb * m = m * nb := Nat.mul_comm _ _
 have e2 : nc * m = m * nc := Nat.mul_comm _ _
 have e3 : nc * nb = nb * nc := Nat.mul_comm _ _
 simp only [Nat.add_mul, Nat.mul_add, Nat.mul_assoc]
 omega
theorem arC (bl n1 n2 : Nat) : (100 + 4 * bl + 8 * n1) * n1 + (100 + 4 * bl + 8 * n2) * n2 ≤ (100 + 4 * bl + 8 * (n1 + n2)) * (n1 + n2) := by
 have e3 : n2 * n1 = n1 * n2 := Nat.mul_comm _ _
 simp only [Nat.add_mul, Nat.mul_add, Nat.mul_assoc]
 omega

mutual
theorem stT_len : ∀ (bl : List UInt8) (s : St), stOk s → (stT bl s).length + bl.length + 1 ≤ (100 + 4 * bl.length + 8 * stW s) * stW s
 | bl, .mk k nm e b c, hk => by
  unfold stOk at hk
  have he := exT_len e hk.1
  have hb := blT_len (bl ++ [32, 32]) b hk.2.1
  have hc := blT_len (bl ++ [32, 32]) c hk.2.2
  have hbl : (bl ++ [32, 32]).length = bl.length + 2 := by simp
  rw [hbl] at hb hc
  have hA := arA bl.length (stW (.mk k nm e b c)) (by rw [stW]; omega)
  have hB := arB bl.length (exW e) (stWs b) (stWs c) (nm.length + 1 + exW e) (stW (.mk k nm e b c)) (by rw [stW]) (by omega)
  have hn : stW (.mk k nm e b c) = nm.length + 1 + exW e + stWs b + stWs c := by rw [stW]
  generalize (100 + 4 * bl.length + 8 * stW (.mk k nm e b c)) * stW (.mk k nm e b c) = R at hA hB ⊢
  rw [stT]
  split
  ·simp only [List.length_append, List.length_cons, List.length_nil]; omega
  ·split
   ·simp only [List.length_append, List.length_cons, List.length_nil]; omega
   ·split
    ·simp only [List.length_append, List.length_cons, List.length_nil]; omega
    ·split
     ·simp only [List.length_append, List.length_cons, List.length_nil]; omega
     ·split
      ·cases c.isEmpty with
       | true => simp only [List.length_append, List.length_cons, List.length_nil, if_true]; omega
       | false => simp only [List.length_append, List.length_cons, List.length_nil, Bool.false_eq_true, if_false]; omega
      ·split
       ·simp only [List.length_append, List.length_cons, List.length_nil]; omega
       ·split
        ·simp only [List.length_cons, List.length_nil]; omega
        ·simp only [List.length_nil]; omega
theorem blT_len : ∀ (bl : List UInt8) (l : List St), stOks l → (blT bl l).length ≤ (100 + 4 * bl.length + 8 * stWs l) * stWs l
 | bl, [], _ => by simp [blT]
 | bl, s :: r, hk => by
  unfold stOks at hk
  have h1 := stT_len bl s hk.1
  have h2 := blT_len bl r hk.2
  have h3 := arC bl.length (stW s) (stWs r)
  rw [blT, stWs]
  simp only [List.length_append, List.length_cons, List.length_nil]
  omega
end

theorem sum_len {α : Type} (f : α → List UInt8) (g : α → Nat) (C : Nat) : ∀ l : List α, (∀ a ∈ l, (f a).length ≤ C * g a) → ((l.map f).flatten).length ≤ C * (l.map g).sum
 | [], _ => by simp
 | a :: r, h => by
  have h1 := h a List.mem_cons_self
  have h2 := sum_len f g C r fun x hx => h x (List.mem_cons_of_mem _ hx)
  simp only [List.map_cons, List.flatten_cons, List.length_append, List.sum_cons, Nat.mul_add]
  omega
theorem le_sum {α : Type} (g : α → Nat) : ∀ (l : List α) (a : α), a ∈ l → g a ≤ (l.map g).sum
 | [], a, h => by cases h
 | x :: r, a, h => by
  simp only [List.map_cons, List.sum_cons]
  rcases List.mem_cons.1 h with rfl | h
  ·omega
  ·have := le_sum g r a h; omega

theorem vrT_len (wd : List UInt8) (hw : wd.length ≤ 8) (v : Vr) (hk : vrOk v) : (vrT wd v).length ≤ 100 * vrW v := by
 have := valTx_len v.t v.b hk
 have h2 : (tyT v.t).length ≤ 4 := by unfold tyT; split <;> (try split) <;> simp
 unfold vrT vrW
 simp only [List.length_append, List.length_cons, List.length_nil]
 omega

theorem thT_len (t : Th) (hk : thOk t) (hw : thW t ≤ 1048576) : (thT t).length ≤ 8389000 * thW t := by
 have h1 := sum_len (vrT [32, 32, 108, 111, 99, 97, 108, 32]) vrW 100 t.locals (fun v hv => vrT_len _ (by decide) v (hk.1 v hv))
 have h2 := blT_len [32, 32] t.body hk.2
 have h3 : (100 + 4 * ([32, 32] : List UInt8).length + 8 * stWs t.body) * stWs t.body ≤ 8388716 * stWs t.body := Nat.mul_le_mul_right _ (by unfold thW at hw; simp only [List.length_cons, List.length_nil]; omega)
 unfold thT thW vrsT
 unfold thW at hw
 simp only [List.length_append, List.length_cons, List.length_nil]
 omega

theorem pgT_len (p : Pg) (hk : pgOk p) (hw : pgW p ≤ 1048576) : (pgT p).length ≤ 70368744177664 := by
 have h1 := sum_len (vrT [115, 104, 97, 114, 101, 100, 32]) vrW 100 p.shared (fun v hv => vrT_len _ (by decide) v (hk.1 v hv))
 have h2 := sum_len mxT (fun m => m.length + 1) 100 p.mutexes (fun m _ => by unfold mxT; simp only [List.length_append, List.length_cons, List.length_nil]; omega)
 have h3 := sum_len thT thW 8389000 p.threads (fun t ht => thT_len t (hk.2 t ht) (by have := le_sum thW p.threads t ht; unfold pgW at hw; omega))
 unfold pgT vrsT mxsT thsT
 unfold pgW at hw
 simp only [List.length_append]
 omega

end Go.Proofs.YtcmahiphfpgadaaGreatDoor

/- The document's own comparison of variables and of names. -/
namespace Go.Proofs.YtcmahiphfpgadaaGreatDoor
open Go.RowKit
set_option linter.unusedVariables false

set_option maxRecDepth 100000 in
set_option maxHeartbeats 3200000 in
theorem kitN_any (B : Nat) (xs ys : List ByteArray) (a1 a2 : Option Addr) (c1 c2 : Nat) (w : World) (h1 : RowN B w a1 c1 xs) (h2 : RowN B w a2 c2 ys) (hBw : B ≤ w.heap.size) :
  Calls Tryz.prog 44 #[.slice a1 xs.length c1, .slice a2 ys.length c2] w fun r w' => r = .returned (.bool (eqL samN (xs.map (fun s : ByteArray => s.data.toList)) (ys.map (fun s : ByteArray => s.data.toList)))) ∧ Below w.heap.size w w' := by
 obtain ⟨R, hR⟩ : ∃ R, Hid (R = eqL samN (xs.map (fun s : ByteArray => s.data.toList)) (ys.map (fun s : ByteArray => s.data.toList))) := ⟨_, (rfl : _ = eqL samN _ _)⟩
 rw [← hR.out]
 obtain ⟨n, hn⟩ : ∃ n, Hid (n = xs.length) := ⟨_, (rfl : xs.length = _)⟩
 obtain ⟨n2, hn2⟩ : ∃ n, Hid (n = ys.length) := ⟨_, (rfl : ys.length = _)⟩
 have hl1 := h1.1
 have hl2 := h2.1
 have hk1 := h1.2.1
 have hk2 := h2.2.1
 rw [← hn.out] at hl1 hk1 ⊢
 rw [← hn2.out] at hl2 hk2 ⊢
 have HR : Hid (RowN B w a1 c1 xs ∧ RowN B w a2 c2 ys) := ⟨h1, h2⟩
 clear h1 h2
 by_cases hnn : n = n2
 ·subst hnn
  go_enter Tryz.func44, Tryz.ntmps44
  go_wp2_with fail
  go_loopw [5] (fun j wr => ∃ i : Nat, j = .int .i64 (i : Int) ∧ i ≤ n ∧ Hid (Below w.heap.size w wr ∧ ∀ (q : Nat) (x y : List UInt8), q < i → (xs.map (fun s : ByteArray => s.data.toList))[q]? = some x → (ys.map (fun s : ByteArray => s.data.toList))[q]? = some y → samN x y = true)) (fun j _ => n - (intOf j).toNat)
  case atStart => exact ⟨0, rfl, by omega, Below.refl _ _, fun q x y hq => by omega⟩
  case round =>
   obtain ⟨i, rfl, hi, hX⟩ := hrel
   by_cases hc : i < n
   ·obtain ⟨x, hx⟩ : ∃ k, xs[i]? = some k := ⟨xs[i]'(by rw [← hn.out]; exact hc), by rw [List.getElem?_eq_getElem]⟩
    obtain ⟨y, hy⟩ : ∃ k, ys[i]? = some k := ⟨ys[i]'(by rw [← hn2.out]; exact hc), by rw [List.getElem?_eq_getElem]⟩
    obtain ⟨hbw, hall⟩ := hX.out
    have hold : Old B w wr := Old.of_below hbw hBw
    obtain ⟨g1, o1, rfl, hg1, hr1⟩ := (HR.out.1.old hold).at i x hx
    obtain ⟨g2, o2, rfl, hg2, hr2⟩ := (HR.out.2.old hold).at i y hy
    have HA : Hid (∀ (q : Nat) (x y : List UInt8), q < i → (xs.map (fun s : ByteArray => s.data.toList))[q]? = some x → (ys.map (fun s : ByteArray => s.data.toList))[q]? = some y → samN x y = true) := hall
    have HXY : Hid ((xs.map (fun s : ByteArray => s.data.toList))[i]? = some ((fun s : ByteArray => s.data.toList) x) ∧ (ys.map (fun s : ByteArray => s.data.toList))[i]? = some ((fun s : ByteArray => s.data.toList) y)) := ⟨by rw [List.getElem?_map, hx]; rfl, by rw [List.getElem?_map, hy]; rfl⟩
    clear hX hold hall HR hx hy
    cases hM : samN ((fun s : ByteArray => s.data.toList) x) ((fun s : ByteArray => s.data.toList) y) with
    | false =>
     have hRf : R = false := by
      rw [hR.out, Bool.eq_false_iff]
      intro h
      have := ((eqL_iff _ _ _).1 h).2 i _ _ HXY.out.1 HXY.out.2
      rw [hM] at this
      cases this
     have hs : (x.toList == y.toList) = false := by
      rw [toList_bytes, toList_bytes, beq_eq_false_iff_ne]
      exact of_decide_eq_false hM
     clear hM
     go_wp2_with fail
     go_quiet (fail)
     go_wp2_with fail
     go_ret
     exact ⟨by rw [hRf]; rfl, below_drN hbw _⟩
    | true =>
     have HM : Hid (samN ((fun s : ByteArray => s.data.toList) x) ((fun s : ByteArray => s.data.toList) y) = true) := hM
     have hs : (x.toList == y.toList) = true := by
      rw [toList_bytes, toList_bytes, beq_iff_eq]
      exact of_decide_eq_true hM
     clear hM
     go_wp2_with fail
     go_quiet (fail)
     go_wp2_with fail
     go_roundw
     case rel =>
      refine ⟨i + 1, by go_num, by omega, below_drN hbw _, fun q u v hq hu hv => ?_⟩
      by_cases hqi : q = i
      ·subst hqi
       rw [HXY.out.1] at hu
       rw [HXY.out.2] at hv
       cases hu
       cases hv
       exact HM.out
      ·exact HA.out q u v (by omega) hu hv
     case measure => simp [intOf]; omega
   ·have hin : i = n := by omega
    obtain ⟨hbw, hall⟩ := hX.out
    have hRt : R = true := by
     rw [hR.out, eqL_iff, List.length_map, List.length_map, ← hn.out, ← hn2.out]
     refine ⟨rfl, fun q u v hu hv => hall q u v ?_ hu hv⟩
     have := (List.getElem?_eq_some_iff.1 hu).1
     rw [List.length_map, ← hn.out] at this
     omega
    clear hX hall hin HR
    go_wp2
    go_ret
    exact ⟨by rw [hRt]; rfl, hbw⟩
 ·have hne : ((n : Int) == (n2 : Int)) = false := by rw [beq_eq_false_iff_ne]; omega
  have hRf : R = false := by
   rw [hR.out, Bool.eq_false_iff]
   intro h
   have := (eqL_iff _ _ _).1 h
   rw [List.length_map, List.length_map, ← hn.out, ← hn2.out] at this
   exact hnn this.1
  clear hnn
  go_enter Tryz.func44, Tryz.ntmps44
  go_wp2_with fail
  go_ret
  exact ⟨by rw [hRf]; rfl, Below.refl _ _⟩

set_option maxRecDepth 100000 in
set_option maxHeartbeats 3200000 in
theorem kitV_any (B : Nat) (xs ys : List VT) (a1 a2 : Option Addr) (c1 c2 : Nat) (w : World) (h1 : RowV B w a1 c1 xs) (h2 : RowV B w a2 c2 ys) (hBw : B ≤ w.heap.size) :
  Calls Tryz.prog 43 #[.slice a1 xs.length c1, .slice a2 ys.length c2] w fun r w' => r = .returned (.bool (eqL samV (xs.map VT.vr) (ys.map VT.vr))) ∧ Below w.heap.size w w' := by
 obtain ⟨R, hR⟩ : ∃ R, Hid (R = eqL samV (xs.map VT.vr) (ys.map VT.vr)) := ⟨_, (rfl : _ = eqL samV _ _)⟩
 rw [← hR.out]
 obtain ⟨n, hn⟩ : ∃ n, Hid (n = xs.length) := ⟨_, (rfl : xs.length = _)⟩
 obtain ⟨n2, hn2⟩ : ∃ n, Hid (n = ys.length) := ⟨_, (rfl : ys.length = _)⟩
 have hl1 := h1.1
 have hl2 := h2.1
 have hk1 := h1.2.1
 have hk2 := h2.2.1
 rw [← hn.out] at hl1 hk1 ⊢
 rw [← hn2.out] at hl2 hk2 ⊢
 have HR : Hid (RowV B w a1 c1 xs ∧ RowV B w a2 c2 ys) := ⟨h1, h2⟩
 clear h1 h2
 by_cases hnn : n = n2
 ·subst hnn
  go_enter Tryz.func43, Tryz.ntmps43
  go_wp2_with fail
  go_loopw [5] (fun j wr => ∃ i : Nat, j = .int .i64 (i : Int) ∧ i ≤ n ∧ Hid (Below w.heap.size w wr ∧ ∀ (q : Nat) (x y : Vr), q < i → (xs.map VT.vr)[q]? = some x → (ys.map VT.vr)[q]? = some y → samV x y = true)) (fun j _ => n - (intOf j).toNat)
  case atStart => exact ⟨0, rfl, by omega, Below.refl _ _, fun q x y hq => by omega⟩
  case round =>
   obtain ⟨i, rfl, hi, hX⟩ := hrel
   by_cases hc : i < n
   ·obtain ⟨x, hx⟩ : ∃ k, xs[i]? = some k := ⟨xs[i]'(by rw [← hn.out]; exact hc), by rw [List.getElem?_eq_getElem]⟩
    obtain ⟨y, hy⟩ : ∃ k, ys[i]? = some k := ⟨ys[i]'(by rw [← hn2.out]; exact hc), by rw [List.getElem?_eq_getElem]⟩
    obtain ⟨hbw, hall⟩ := hX.out
    have hold : Old B w wr := Old.of_below hbw hBw
    obtain ⟨g1, o1, rfl, hg1, hr1, hi1⟩ := (HR.out.1.old hold).at i x hx
    obtain ⟨g2, o2, rfl, hg2, hr2, hi2⟩ := (HR.out.2.old hold).at i y hy
    obtain ⟨nm, t, b⟩ := x
    obtain ⟨nm', t', b'⟩ := y
    have x0 : wr.cell? ⟨g1, o1 + i * 3, none⟩ = some (.string nm) := by have := hr1 0 _ rfl; simpa using this
    have x1 : wr.cell? ⟨g1, o1 + i * 3 + 1, none⟩ = some (.int .u8 (t : Int)) := hr1 1 _ rfl
    have x2 : wr.cell? ⟨g1, o1 + i * 3 + 2, none⟩ = some (.int .u64 (b : Int)) := hr1 2 _ rfl
    have y0 : wr.cell? ⟨g2, o2 + i * 3, none⟩ = some (.string nm') := by have := hr2 0 _ rfl; simpa using this
    have y1 : wr.cell? ⟨g2, o2 + i * 3 + 1, none⟩ = some (.int .u8 (t' : Int)) := hr2 1 _ rfl
    have y2 : wr.cell? ⟨g2, o2 + i * 3 + 2, none⟩ = some (.int .u64 (b' : Int)) := hr2 2 _ rfl
    have hq := eqV nm t b nm' t' b'
    clear hr1 hr2 hi1 hi2
    have HA : Hid (∀ (q : Nat) (x y : Vr), q < i → (xs.map VT.vr)[q]? = some x → (ys.map VT.vr)[q]? = some y → samV x y = true) := hall
    have HXY : Hid ((xs.map VT.vr)[i]? = some (VT.vr ⟨nm, t, b⟩) ∧ (ys.map VT.vr)[i]? = some (VT.vr ⟨nm', t', b'⟩)) := ⟨by rw [List.getElem?_map, hx]; rfl, by rw [List.getElem?_map, hy]; rfl⟩
    clear hX hold hall HR hx hy
    cases hM : samV (VT.vr ⟨nm, t, b⟩) (VT.vr ⟨nm', t', b'⟩) with
    | false =>
     have hRf : R = false := by
      rw [hR.out, Bool.eq_false_iff]
      intro h
      have := ((eqL_iff _ _ _).1 h).2 i _ _ HXY.out.1 HXY.out.2
      rw [hM] at this
      cases this
     have hq' : ∀ u, (Op.equalIn 10000 56 (.agg #[.string nm, .int .u8 (t : Int), .int .u64 (b : Int)]) (.agg #[.string nm', .int .u8 (t' : Int), .int .u64 (b' : Int)])).run Tryz.prog u = .ok false u := fun u => by rw [hq]; exact congrArg (fun z => Result.ok z u) hM
     clear hq
     clear hM
     go_wp2_with fail
     go_quiet (fail)
     go_wp2_with fail
     go_ret
     exact ⟨by rw [hRf]; rfl, below_drN hbw _⟩
    | true =>
     have HM : Hid (samV (VT.vr ⟨nm, t, b⟩) (VT.vr ⟨nm', t', b'⟩) = true) := hM
     have hq' : ∀ u, (Op.equalIn 10000 56 (.agg #[.string nm, .int .u8 (t : Int), .int .u64 (b : Int)]) (.agg #[.string nm', .int .u8 (t' : Int), .int .u64 (b' : Int)])).run Tryz.prog u = .ok true u := fun u => by rw [hq]; exact congrArg (fun z => Result.ok z u) hM
     clear hq
     clear hM
     go_wp2_with fail
     go_quiet (fail)
     go_wp2_with fail
     go_roundw
     case rel =>
      refine ⟨i + 1, by go_num, by omega, below_drN hbw _, fun q u v hq hu hv => ?_⟩
      by_cases hqi : q = i
      ·subst hqi
       rw [HXY.out.1] at hu
       rw [HXY.out.2] at hv
       cases hu
       cases hv
       exact HM.out
      ·exact HA.out q u v (by omega) hu hv
     case measure => simp [intOf]; omega
   ·have hin : i = n := by omega
    obtain ⟨hbw, hall⟩ := hX.out
    have hRt : R = true := by
     rw [hR.out, eqL_iff, List.length_map, List.length_map, ← hn.out, ← hn2.out]
     refine ⟨rfl, fun q u v hu hv => hall q u v ?_ hu hv⟩
     have := (List.getElem?_eq_some_iff.1 hu).1
     rw [List.length_map, ← hn.out] at this
     omega
    clear hX hall hin HR
    go_wp2
    go_ret
    exact ⟨by rw [hRt]; rfl, hbw⟩
 ·have hne : ((n : Int) == (n2 : Int)) = false := by rw [beq_eq_false_iff_ne]; omega
  have hRf : R = false := by
   rw [hR.out, Bool.eq_false_iff]
   intro h
   have := (eqL_iff _ _ _).1 h
   rw [List.length_map, List.length_map, ← hn.out, ← hn2.out] at this
   exact hnn this.1
  clear hnn
  go_enter Tryz.func43, Tryz.ntmps43
  go_wp2_with fail
  go_ret
  exact ⟨by rw [hRf]; rfl, Below.refl _ _⟩
end Go.Proofs.YtcmahiphfpgadaaGreatDoor
