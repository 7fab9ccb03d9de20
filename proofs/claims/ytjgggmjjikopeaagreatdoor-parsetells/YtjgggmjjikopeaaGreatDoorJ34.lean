/- J -/
import Derived.Lib.LaidTab
import Derived.Stop.LaidErr
import Derived.LaidMore
import Derived.ProofKit
import Derived.OpenShut
import Derived.Test.YtjgggmjjikopeaaGreatDoorJ31
set_option linter.unusedVariables false
set_option maxRecDepth 100000
set_option maxHeartbeats 6400000
open Go.RowKit
namespace Go.Proofs.YtjgggmjjikopeaaGreatDoor
section
open Go.ChangeShapes Go.WideShapes Go.ChangeAt Go.RowKit
def Ku : List (String × DataW Unit) := [("math/bits.deBruijn32tab", Rows.laid_math_bits_deBruijn32tab), ("math/bits.deBruijn64tab", Rows.laid_math_bits_deBruijn64tab), ("internal/strconv.uint64pow10", Rows.laid_internal_strconv_uint64pow10), ("strconv.ErrRange", Rows.laid_strconv_ErrRange), ("strconv.ErrSyntax", Rows.laid_strconv_ErrSyntax)]
theorem gER : Tryz.prog.globalNamed "strconv.ErrRange" = some 2 := by kernel_rfl
theorem zfI : (Tryz.prog.globals[2]?).map (·.type) = some 143 := by kernel_rfl
theorem zfQ : Tryz.prog.cellsOf 225 = 1 := by kernel_rfl
theorem zfR : Tryz.prog.cellsOf 9 = 1 := by kernel_rfl
theorem zdX : "*" ++ "errors.errorString" = "*errors.errorString" := by decide
theorem zg2 (u : TypeId) (h : Tryz.prog.typeName? 3 u = some "*errors.errorString") : u = 223 :=
 typeName_ptr_named (nm := "errors.errorString") (by rw [zdX]; kernel_rfl) (by kernel_rfl) (by decide) u (by rw [zdX]; exact h)
theorem qx {W : World} (h : laidMetH Tryz.prog Ku W) : ErrR W := by
 rw [MakeChecks.laidMetH_plain _ _ _ (by kernel_rfl)] at h
 obtain ⟨a1, s1, hv1, -, -, -⟩ := laid_sentinel h.tail.tail.tail gER zfI Tryz.underlying143 zg2 Tryz.underlying223 Tryz.underlying225 rfl rfl Tryz.underlying9 zfQ zfR
 exact ⟨_, by have h0 := World.var?_cell gER hv1 0; simpa using h0, .inr ⟨_, _, rfl⟩⟩
theorem zhq : Tryz.prog.globalNamed "internal/strconv.uint64pow10" = some 4 := by kernel_rfl
theorem zeA : (Tryz.prog.globals[4]?).map (·.type) = some 218 := by kernel_rfl
theorem zeO : Tryz.prog.cellsOf 38 = 1 := by kernel_rfl
theorem zeP : Tryz.prog.cellsOf 218 = 20 := by kernel_rfl
theorem gDb : Tryz.prog.globalNamed "math/bits.deBruijn64tab" = some 6 := by kernel_rfl
theorem jW {W : World} (h : laidMetH Tryz.prog Ku W) : gB <= W.heap.size := by
 rw [MakeChecks.laidMetH_plain _ _ _ (by kernel_rfl)] at h
 obtain ⟨ps, ⟨g', t', cs, fuel, p, q, hg', ht', hvar, hd, _, _⟩, _⟩ := laidMet.tail h
 obtain rfl := yZ (gDb.symm.trans hg')
 unfold World.var? at hvar
 obtain ⟨g, hg, hx⟩ := Option.bind_eq_some_iff.1 hvar
 obtain rfl := yZ (gDb.symm.trans hg)
 show 7 <= W.heap.size
 by_cases hs : 6 < W.heap.size
 ·omega
 ·rw [Array.getElem?_eq_none (by omega)] at hx
  simp at hx
theorem qT {W : World} (h : laidMetH Tryz.prog Ku W) : Tab W := by
 rw [MakeChecks.laidMetH_plain _ _ _ (by kernel_rfl)] at h
 exact Lib.tabIs_of_head zhq zeA Tryz.underlying218 Tryz.underlying38 zeO zeP (laidMet.tail (laidMet.tail h))
theorem zeG (os : Os) (args : Array Value) : laidMetH Tryz.prog Ku ((World.doorLaid Tryz.prog 400 os).forCall (fun _ _ => 0) ⟨#[], args, []⟩).memory :=
 laidMetH_of_parts3 (fuel := 8) (laidMet_of_run' 8 (by kernel_rfl) (by kernel_rfl)) (by kernel_rfl) (by kernel_rfl)
end
def V6 (w : World) (C : Nat) (args : Array Value) (p : Bool) : Prop := ∀ w', Below w.heap.size w w' -> Calls Tryz.prog C args w' fun r w'' => r = .returned (.bool p) /\ Below w'.heap.size w' w''
mutual
def Kc : St -> St -> Bool
 | .mk k nm e b c, .mk k' nm' e' b' c' => decide (k = k') && (decide (nm = nm') && (XE e e' && (samSL b b' && samSL c c')))
def samSL : List St -> List St -> Bool
 | [], [] => true
 | x :: r, y :: s => Kc x y && samSL r s
 | _, _ => false
end
theorem X6 : ∀ (xs ys : List St), samSL xs ys = true ↔ xs.length = ys.length /\ ∀ (i : Nat) (x y : St), xs[i]? = some x -> ys[i]? = some y -> Kc x y = true
 | [], [] => by simp [samSL]
 | [], y :: s => by simp [samSL]
 | x :: r, [] => by simp [samSL]
 | x :: r, y :: s => by
  rw [samSL, yX, X6 r s]
  constructor
  ·rintro ⟨h1, h2, h3⟩
   refine ⟨by simp [h2], fun i a b ha hb => ?_⟩
   cases i with
   | zero => simp at ha hb; subst ha hb; exact h1
   | succ i => exact h3 i a b (by simpa using ha) (by simpa using hb)
  ·rintro ⟨h1, h2⟩
   exact ⟨h2 0 x y rfl rfl, by simpa using h1, fun i a b ha hb => h2 (i + 1) a b (by simpa using ha) (by simpa using hb)⟩
def eqL {α : Type} (f : α -> α -> Bool) : List α -> List α -> Bool
 | [], [] => true
 | x :: r, y :: s => f x y && eqL f r s
 | _, _ => false
theorem Ys {α : Type} (f : α -> α -> Bool) : ∀ (xs ys : List α), eqL f xs ys = true ↔ xs.length = ys.length /\ ∀ (i : Nat) (x y : α), xs[i]? = some x -> ys[i]? = some y -> f x y = true
 | [], [] => by simp [eqL]
 | [], y :: s => by simp [eqL]
 | x :: r, [] => by simp [eqL]
 | x :: r, y :: s => by
  rw [eqL, yX, Ys f r s]
  constructor
  ·rintro ⟨h1, h2, h3⟩
   refine ⟨by simp [h2], fun i a b ha hb => ?_⟩
   cases i with
   | zero => simp at ha hb; subst ha hb; exact h1
   | succ i => exact h3 i a b (by simpa using ha) (by simpa using hb)
  ·rintro ⟨h1, h2⟩
   exact ⟨h2 0 x y rfl rfl, by simpa using h1, fun i a b ha hb => h2 (i + 1) a b (by simpa using ha) (by simpa using hb)⟩
def XF (v u : Vr) : Bool := decide (v.nm = u.nm /\ v.t = u.t /\ v.b = u.b)
def JQ (t u : Th) : Bool := decide (t.nm = u.nm) && (eqL XF t.locals u.locals && samSL t.body u.body)
def KU (a b : List UInt8) : Bool := decide (a = b)
theorem eqV (nm : ByteArray) (t b : Nat) (nm' : ByteArray) (t' b' : Nat) (u : World) : (Op.equalIn 10000 48 (.agg #[.string nm, .int .u8 (t : Int), .int .u64 (b : Int)]) (.agg #[.string nm', .int .u8 (t' : Int), .int .u64 (b' : Int)])).run Tryz.prog u = .ok (XF (VT.vr ⟨nm, t, b⟩) (VT.vr ⟨nm', t', b'⟩)) u := by
 unfold XF VT.vr
 by_cases h0 : nm.toList = nm'.toList
 ·have e0 : (nm.toList == nm'.toList) = true := by rw [beq_iff_eq]; exact h0
  have f0 : nm.data.toList = nm'.data.toList := by rw [zf, zf] at h0; exact h0
  by_cases h1 : t = t'
  ·subst h1
   by_cases h2 : b = b'
   ·subst h2
    go_simp
   ·have e2 : ((b : Int) == (b' : Int)) = false := by rw [zt]; omega
    go_simp
  ·have e1 : ((t : Int) == (t' : Int)) = false := by rw [zt]; omega
   go_simp
 ·have e0 : (nm.toList == nm'.toList) = false := by rw [zt]; exact h0
  have f0 : ¬ nm.data.toList = nm'.data.toList := by rw [zf, zf] at h0; exact h0
  go_simp
def zgl (p q : Pg) : Bool := eqL XF p.shared q.shared && (eqL KU p.mutexes q.mutexes && eqL JQ p.threads q.threads)
theorem ST.sz1 {k : Int} {nm : ByteArray} {e : ET} {a1 a2 : Option Addr} {c1 c2 : Nat} {body els : List ST} {x : ST} (h : x ∈ body) : SizeOf.sizeOf x < SizeOf.sizeOf (ST.mk k nm e a1 c1 body a2 c2 els) := by
 have := List.sizeOf_lt_of_mem h
 simp only [ST.mk.sizeOf_spec]
 omega
theorem ST.sz2 {k : Int} {nm : ByteArray} {e : ET} {a1 a2 : Option Addr} {c1 c2 : Nat} {body els : List ST} {x : ST} (h : x ∈ els) : SizeOf.sizeOf x < SizeOf.sizeOf (ST.mk k nm e a1 c1 body a2 c2 els) := by
 have := List.sizeOf_lt_of_mem h
 simp only [ST.mk.sizeOf_spec]
 omega
theorem ZK {w : World} {g : Nat} {s1 s2 s3 : Value} (h : At 26 w g [s1, s2, s3]) : w.cell? ⟨g, 0, none⟩ = some s1 /\ w.cell? ⟨g, 1, none⟩ = some s2 /\ w.cell? ⟨g, 2, none⟩ = some s3 := by
 refine ⟨?_, ?_, ?_⟩ <;> (rw [h.cell]; rfl)
theorem zbd {w : World} {g o : Nat} {k : Int} {nm : ByteArray} {op t b : Nat} {enm : ByteArray} {ea : Option Addr} {en ec : Nat} {a1 : Option Addr} {n1 c1 : Nat} {a2 : Option Addr} {n2 c2 : Nat} (h : w.rangeAt g o (st9 k nm (ex5 op t b enm (.slice ea en ec)) (.slice a1 n1 c1) (.slice a2 n2 c2))) : w.cell? ⟨g, o, none⟩ = some (.int .i64 k) /\ w.cell? ⟨g, o + 1, none⟩ = some (.string nm) /\ w.cell? ⟨g, o + 2, none⟩ = some (.int .u8 (op : Int)) /\ w.cell? ⟨g, o + 3, none⟩ = some (.int .u8 (t : Int)) /\ w.cell? ⟨g, o + 4, none⟩ = some (.int .u64 (b : Int)) /\ w.cell? ⟨g, o + 5, none⟩ = some (.string enm) /\ w.cell? ⟨g, o + 6, none⟩ = some (.slice ea en ec) /\ w.cell? ⟨g, o + 7, none⟩ = some (.slice a1 n1 c1) /\ w.cell? ⟨g, o + 8, none⟩ = some (.slice a2 n2 c2) :=
 ⟨h 0 _ rfl, h 1 _ rfl, h 2 _ rfl, h 3 _ rfl, h 4 _ rfl, h 5 _ rfl, h 6 _ rfl, h 7 _ rfl, h 8 _ rfl⟩
def zcy (B : Nat) (xs : List ST) : Prop := ∀ (ys : List ST) (a a' : Option Addr) (c c' : Nat) (w : World), RowS B w a c xs -> RowS B w a' c' ys -> B <= w.heap.size -> Calls Tryz.prog 33 #[.slice a xs.length c, .slice a' ys.length c'] w fun r w' => r = .returned (.bool (samSL (xs.map ST.st) (ys.map ST.st))) /\ Below w.heap.size w w'
def ze5 (B : Nat) : ST -> Prop
 | .mk _ _ _ _ _ body _ _ els => zcy B body /\ zcy B els
set_option maxHeartbeats 12800000 in
theorem XS (B : Nat) (xs : List ST) (hS : ∀ x ∈ xs, ze5 B x) : zcy B xs := by
 intro ys a1_ a2_ cc1 cc2 w h1 h2 hBw
 obtain ⟨R, hR⟩ : ∃ R, Hid (R = samSL (xs.map ST.st) (ys.map ST.st)) := ⟨_, (rfl : _ = samSL _ _)⟩
 rw [<- hR.out]
 obtain ⟨n, hn⟩ : ∃ n, Hid (n = xs.length) := ⟨_, (rfl : xs.length = _)⟩
 obtain ⟨n', hn'⟩ : ∃ n, Hid (n = ys.length) := ⟨_, (rfl : ys.length = _)⟩
 have hl1 := h1.1
 have hl2 := h2.1
 have hk1 := h1.2.1
 have hk2 := h2.2.1
 rw [<- hn.out] at hl1 hk1 ⊢
 rw [<- hn'.out] at hl2 hk2 ⊢
 have HR : Hid (RowS B w a1_ cc1 xs /\ RowS B w a2_ cc2 ys) := ⟨h1, h2⟩
 have HS : Hid (∀ x ∈ xs, ze5 B x) := hS
 clear h1 h2 hS
 by_cases hnn : n = n'
 ·subst hnn
  go_enter Tryz.func33, Tryz.ntmps33
  go_wp2_with fail
  go_loopw [5] (fun j wr => ∃ i : Nat, j = .int .i64 (i : Int) /\ i <= n /\ Hid (Below w.heap.size w wr /\ ∀ (q : Nat) (x y : St), q < i -> (xs.map ST.st)[q]? = some x -> (ys.map ST.st)[q]? = some y -> Kc x y = true)) (fun j _ => n - (intOf j).toNat)
  case atStart => exact ⟨0, rfl, by omega, Below.refl _ _, fun q x y hq => by omega⟩
  case round =>
   obtain ⟨i, rfl, hi, hX⟩ := hrel
   obtain ⟨hbw, hall⟩ := hX.out
   by_cases hc : i < n
   ·obtain ⟨x, hx⟩ : ∃ k, xs[i]? = some k := ⟨xs[i]'(by rw [<- hn.out]; exact hc), by rw [yD]⟩
    obtain ⟨y, hy⟩ : ∃ k, ys[i]? = some k := ⟨ys[i]'(by rw [<- hn'.out]; exact hc), by rw [yD]⟩
    have hold : Old B w wr := Old.of_below hbw hBw
    obtain ⟨g1, o1, rfl, hg1, hr1, hx1⟩ := (HR.out.1.old hold).at i x hx
    obtain ⟨g2, o2, rfl, hg2, hr2, hy1⟩ := (HR.out.2.old hold).at i y hy
    have hKS := HS.out x (List.mem_of_getElem? hx)
    have HX : Hid ((xs.map ST.st)[i]? = some x.st /\ (ys.map ST.st)[i]? = some y.st) := ⟨by rw [List.getElem?_map, hx]; rfl, by rw [List.getElem?_map, hy]; rfl⟩
    have HA : Hid (∀ (q : Nat) (x y : St), q < i -> (xs.map ST.st)[q]? = some x -> (ys.map ST.st)[q]? = some y -> Kc x y = true) := hall
    obtain ⟨Z, hZ⟩ : ∃ Z, Hid (Z = Kc x.st y.st) := ⟨_, (rfl : _ = Kc _ _)⟩
    have hRf : Hid (Z = false -> R = false) := fun hz => by
     rw [hR.out, Bool.eq_false_iff]
     intro h
     have := ((X6 _ _).1 h).2 i _ _ HX.out.1 HX.out.2
     rw [<- hZ.out, hz] at this
     cases this
    have hZS : Hid (Z = Kc x.st y.st) := hZ.out
    obtain ⟨k, nm, ⟨op, t, b, enm, ea, ec, eks⟩, a1, c1, b1, a2, c2, b2⟩ := x
    obtain ⟨k', nm', ⟨op', t', b', enm', ea', ec', eks'⟩, a1', c1', b1', a2', c2', b2'⟩ := y
    obtain ⟨hKb, hKe⟩ := hKS
    unfold ST.In at hx1 hy1
    obtain ⟨_, xe, x1, x2⟩ := hx1
    obtain ⟨_, ye, y1, y2⟩ := hy1
    have hZ2 : Hid (Z = (decide (k = k') && (decide (nm.data.toList = nm'.data.toList) && (XE (ET.mk op t b enm ea ec eks).ex (ET.mk op' t' b' enm' ea' ec' eks').ex && (samSL (b1.map ST.st) (b1'.map ST.st) && samSL (b2.map ST.st) (b2'.map ST.st)))))) := by
     show Z = _
     rw [hZ.out]
     show Kc (.mk k nm.data.toList _ (ST.sts b1) (ST.sts b2)) (.mk k' nm'.data.toList _ (ST.sts b1') (ST.sts b2')) = _
     rw [Kc, ST.sts_eq, ST.sts_eq, ST.sts_eq, ST.sts_eq]
    have hsz : B <= wr.heap.size := by have := hbw.size; omega
    have q3 : V6 wr 15 #[.agg (ex5 op t b enm (.slice ea eks.length ec)).toArray, .agg (ex5 op' t' b' enm' (.slice ea' eks'.length ec')).toArray] (XE (ET.mk op t b enm ea ec eks).ex (ET.mk op' t' b' enm' ea' ec' eks').ex) := fun w' h => zaH B _ (.mk op t b enm ea ec eks) (Nat.lt_succ_self _) (.mk op' t' b' enm' ea' ec' eks') w' (xe.old (Old.of_below h hsz)) (ye.old (Old.of_below h hsz)) (by have := h.size; omega)
    have q4 : V6 wr 33 #[.slice a1 b1.length c1, .slice a1' b1'.length c1'] (samSL (b1.map ST.st) (b1'.map ST.st)) := fun w' h => hKb b1' a1 a1' c1 c1' w' (RowS.old x1 (Old.of_below h hsz)) (RowS.old y1 (Old.of_below h hsz)) (by have := h.size; omega)
    have q5 : V6 wr 33 #[.slice a2 b2.length c2, .slice a2' b2'.length c2'] (samSL (b2.map ST.st) (b2'.map ST.st)) := fun w' h => hKe b2' a2 a2' c2 c2' w' (RowS.old x2 (Old.of_below h hsz)) (RowS.old y2 (Old.of_below h hsz)) (by have := h.size; omega)
    generalize XE (ET.mk op t b enm ea ec eks).ex (ET.mk op' t' b' enm' ea' ec' eks').ex = p3 at q3 hZ2
    generalize samSL (b1.map ST.st) (b1'.map ST.st) = p4 at q4 hZ2
    generalize samSL (b2.map ST.st) (b2'.map ST.st) = p5 at q5 hZ2
    simp only [ST.cells, ET.cells] at hr1 hr2
    generalize eks.length = en at q3 hr1
    generalize eks'.length = en' at q3 hr2
    generalize b1.length = n1 at q4 hr1
    generalize b1'.length = n1' at q4 hr2
    generalize b2.length = n2 at q5 hr1
    generalize b2'.length = n2' at q5 hr2
    have hr1 : wr.rangeAt g1 (o1 + i * 9) (st9 k nm (ex5 op t b enm (.slice ea en ec)) (.slice a1 n1 c1) (.slice a2 n2 c2)) := hr1
    have hr2 : wr.rangeAt g2 (o2 + i * 9) (st9 k' nm' (ex5 op' t' b' enm' (.slice ea' en' ec')) (.slice a1' n1' c1') (.slice a2' n2' c2')) := hr2
    have HK : Hid (∀ w', Below wr.heap.size wr w' -> ((w'.cell? ⟨g1, o1 + i * 9, none⟩ = some (.int .i64 k) /\ w'.cell? ⟨g1, o1 + i * 9 + 1, none⟩ = some (.string nm) /\ w'.cell? ⟨g1, o1 + i * 9 + 2, none⟩ = some (.int .u8 (op : Int)) /\ w'.cell? ⟨g1, o1 + i * 9 + 3, none⟩ = some (.int .u8 (t : Int)) /\ w'.cell? ⟨g1, o1 + i * 9 + 4, none⟩ = some (.int .u64 (b : Int)) /\ w'.cell? ⟨g1, o1 + i * 9 + 5, none⟩ = some (.string enm) /\ w'.cell? ⟨g1, o1 + i * 9 + 6, none⟩ = some (.slice ea en ec) /\ w'.cell? ⟨g1, o1 + i * 9 + 7, none⟩ = some (.slice a1 n1 c1) /\ w'.cell? ⟨g1, o1 + i * 9 + 8, none⟩ = some (.slice a2 n2 c2)) /\ (w'.cell? ⟨g2, o2 + i * 9, none⟩ = some (.int .i64 k') /\ w'.cell? ⟨g2, o2 + i * 9 + 1, none⟩ = some (.string nm') /\ w'.cell? ⟨g2, o2 + i * 9 + 2, none⟩ = some (.int .u8 (op' : Int)) /\ w'.cell? ⟨g2, o2 + i * 9 + 3, none⟩ = some (.int .u8 (t' : Int)) /\ w'.cell? ⟨g2, o2 + i * 9 + 4, none⟩ = some (.int .u64 (b' : Int)) /\ w'.cell? ⟨g2, o2 + i * 9 + 5, none⟩ = some (.string enm') /\ w'.cell? ⟨g2, o2 + i * 9 + 6, none⟩ = some (.slice ea' en' ec') /\ w'.cell? ⟨g2, o2 + i * 9 + 7, none⟩ = some (.slice a1' n1' c1') /\ w'.cell? ⟨g2, o2 + i * 9 + 8, none⟩ = some (.slice a2' n2' c2')))) := fun w' h => ⟨zbd ((Old.of_below (B := B) h hsz).range hg1 hr1), zbd ((Old.of_below (B := B) h hsz).range hg2 hr2)⟩
    have Q3 : Hid (V6 wr 15 #[.agg #[.int .u8 (op : Int), .int .u8 (t : Int), .int .u64 (b : Int), .string enm, .slice ea en ec], .agg #[.int .u8 (op' : Int), .int .u8 (t' : Int), .int .u64 (b' : Int), .string enm', .slice ea' en' ec']] p3) := q3
    have Q4 : Hid (V6 wr 33 #[.slice a1 n1 c1, .slice a1' n1' c1'] p4) := q4
    have Q5 : Hid (V6 wr 33 #[.slice a2 n2 c2, .slice a2' n2' c2'] p5) := q5
    clear hX hall hx hy hold hr1 hr2 xe x1 x2 ye y1 y2 q3 q4 q5 hKb hKe HR HS hZ
    have hB0 : Below wr.heap.size wr wr.drew := Below.drew (Below.refl _ _)
    have hS0 := HK.out wr.drew hB0
    go_wp2_with fail
    refine wp_region_held_drew (S := (fun w' => (w'.cell? ⟨g1, o1 + i * 9, none⟩ = some (.int .i64 k) /\ w'.cell? ⟨g1, o1 + i * 9 + 1, none⟩ = some (.string nm) /\ w'.cell? ⟨g1, o1 + i * 9 + 2, none⟩ = some (.int .u8 (op : Int)) /\ w'.cell? ⟨g1, o1 + i * 9 + 3, none⟩ = some (.int .u8 (t : Int)) /\ w'.cell? ⟨g1, o1 + i * 9 + 4, none⟩ = some (.int .u64 (b : Int)) /\ w'.cell? ⟨g1, o1 + i * 9 + 5, none⟩ = some (.string enm) /\ w'.cell? ⟨g1, o1 + i * 9 + 6, none⟩ = some (.slice ea en ec) /\ w'.cell? ⟨g1, o1 + i * 9 + 7, none⟩ = some (.slice a1 n1 c1) /\ w'.cell? ⟨g1, o1 + i * 9 + 8, none⟩ = some (.slice a2 n2 c2)) /\ (w'.cell? ⟨g2, o2 + i * 9, none⟩ = some (.int .i64 k') /\ w'.cell? ⟨g2, o2 + i * 9 + 1, none⟩ = some (.string nm') /\ w'.cell? ⟨g2, o2 + i * 9 + 2, none⟩ = some (.int .u8 (op' : Int)) /\ w'.cell? ⟨g2, o2 + i * 9 + 3, none⟩ = some (.int .u8 (t' : Int)) /\ w'.cell? ⟨g2, o2 + i * 9 + 4, none⟩ = some (.int .u64 (b' : Int)) /\ w'.cell? ⟨g2, o2 + i * 9 + 5, none⟩ = some (.string enm') /\ w'.cell? ⟨g2, o2 + i * 9 + 6, none⟩ = some (.slice ea' en' ec') /\ w'.cell? ⟨g2, o2 + i * 9 + 7, none⟩ = some (.slice a1' n1' c1') /\ w'.cell? ⟨g2, o2 + i * 9 + 8, none⟩ = some (.slice a2' n2' c2')))) (by kernel_rfl) hS0 (fun _ => ?_)
    refine tY 0 (.slice (some ⟨g1, o1, none⟩) n cc1) (oi := { dst := some 17, op := .move (.tmp 0), guard := none, .. }) rfl hS0 ?_ ?_
    ·intro w hSw
     go_simp
    simp only [Act.put, sA, sB, sC]
    refine tY 1 (.int .i64 (i : Int)) (oi := { dst := some 18, op := .move (.tmp 5), guard := none, .. }) rfl hS0 ?_ ?_
    ·intro w hSw
     go_simp
    simp only [Act.put, sA, sB, sC]
    refine tY 2 (.pointer (some ⟨g1, o1 + i * 9, none⟩)) (oi := { dst := some 19, op := .indexAddr 49 (.tmp 17) (.tmp 18), guard := none, .. }) rfl hS0 ?_ ?_
    ·intro w hSw
     go_simp
    simp only [Act.put, sA, sB, sC]
    refine tY 3 (.pointer (some ⟨g1, o1 + i * 9, none⟩)) (oi := { dst := some 20, op := .fieldAddr 51 (.tmp 19) 0, guard := none, .. }) rfl hS0 ?_ ?_
    ·intro w hSw
     go_simp
    simp only [Act.put, sA, sB, sC]
    refine tY 4 (.int .i64 k) (oi := { dst := some 21, op := .load 3 (.tmp 20), guard := none, .. }) rfl hS0 ?_ ?_
    ·intro w hSw
     have z := hSw.1.1
     go_simp
    simp only [Act.put, sA, sB, sC]
    refine tY 5 (.slice (some ⟨g2, o2, none⟩) n cc2) (oi := { dst := some 22, op := .move (.tmp 1), guard := none, .. }) rfl hS0 ?_ ?_
    ·intro w hSw
     go_simp
    simp only [Act.put, sA, sB, sC]
    refine tY 6 (.int .i64 (i : Int)) (oi := { dst := some 23, op := .move (.tmp 5), guard := none, .. }) rfl hS0 ?_ ?_
    ·intro w hSw
     go_simp
    simp only [Act.put, sA, sB, sC]
    refine tY 7 (.pointer (some ⟨g2, o2 + i * 9, none⟩)) (oi := { dst := some 24, op := .indexAddr 49 (.tmp 22) (.tmp 23), guard := none, .. }) rfl hS0 ?_ ?_
    ·intro w hSw
     go_simp
    simp only [Act.put, sA, sB, sC]
    refine tY 8 (.pointer (some ⟨g2, o2 + i * 9, none⟩)) (oi := { dst := some 25, op := .fieldAddr 51 (.tmp 24) 0, guard := none, .. }) rfl hS0 ?_ ?_
    ·intro w hSw
     go_simp
    simp only [Act.put, sA, sB, sC]
    refine tY 9 (.int .i64 k') (oi := { dst := some 26, op := .load 3 (.tmp 25), guard := none, .. }) rfl hS0 ?_ ?_
    ·intro w hSw
     have z := hSw.2.1
     go_simp
    simp only [Act.put, sA, sB, sC]
    by_cases hk : k = k'
    ·subst hk
     refine tY 10 (.bool false) (oi := { dst := some 27, op := .binOp .neq 3 (.tmp 21) (.tmp 26) 3, guard := none, .. }) rfl hS0 ?_ ?_
     ·intro w hSw
      go_simp
     simp only [Act.put, sA, sB, sC]
     refine tY 11 (.bool false) (oi := { dst := some 28, op := .move (.tmp 27), guard := none, .. }) rfl hS0 ?_ ?_
     ·intro w hSw
      go_simp
     simp only [Act.put, sA, sB, sC]
     refine tY 12 (.slice (some ⟨g1, o1, none⟩) n cc1) (oi := { dst := some 29, op := .move (.tmp 0), guard := some (11, false), .. }) rfl hS0 ?_ ?_
     ·intro w hSw
      go_simp
     simp only [Act.put, sA, sB, sC]
     refine tY 13 (.int .i64 (i : Int)) (oi := { dst := some 30, op := .move (.tmp 5), guard := some (11, false), .. }) rfl hS0 ?_ ?_
     ·intro w hSw
      go_simp
     simp only [Act.put, sA, sB, sC]
     refine tY 14 (.pointer (some ⟨g1, o1 + i * 9, none⟩)) (oi := { dst := some 31, op := .indexAddr 49 (.tmp 29) (.tmp 30), guard := some (11, false), .. }) rfl hS0 ?_ ?_
     ·intro w hSw
      go_simp
     simp only [Act.put, sA, sB, sC]
     refine tY 15 (.pointer (some ⟨g1, o1 + i * 9 + 1, none⟩)) (oi := { dst := some 32, op := .fieldAddr 51 (.tmp 31) 1, guard := some (11, false), .. }) rfl hS0 ?_ ?_
     ·intro w hSw
      go_simp
     simp only [Act.put, sA, sB, sC]
     refine tY 16 (.string nm) (oi := { dst := some 33, op := .load 9 (.tmp 32), guard := some (11, false), .. }) rfl hS0 ?_ ?_
     ·intro w hSw
      have z := hSw.1.2.1
      go_simp
     simp only [Act.put, sA, sB, sC]
     refine tY 17 (.slice (some ⟨g2, o2, none⟩) n cc2) (oi := { dst := some 34, op := .move (.tmp 1), guard := some (11, false), .. }) rfl hS0 ?_ ?_
     ·intro w hSw
      go_simp
     simp only [Act.put, sA, sB, sC]
     refine tY 18 (.int .i64 (i : Int)) (oi := { dst := some 35, op := .move (.tmp 5), guard := some (11, false), .. }) rfl hS0 ?_ ?_
     ·intro w hSw
      go_simp
     simp only [Act.put, sA, sB, sC]
     refine tY 19 (.pointer (some ⟨g2, o2 + i * 9, none⟩)) (oi := { dst := some 36, op := .indexAddr 49 (.tmp 34) (.tmp 35), guard := some (11, false), .. }) rfl hS0 ?_ ?_
     ·intro w hSw
      go_simp
     simp only [Act.put, sA, sB, sC]
     refine tY 20 (.pointer (some ⟨g2, o2 + i * 9 + 1, none⟩)) (oi := { dst := some 37, op := .fieldAddr 51 (.tmp 36) 1, guard := some (11, false), .. }) rfl hS0 ?_ ?_
     ·intro w hSw
      go_simp
     simp only [Act.put, sA, sB, sC]
     refine tY 21 (.string nm') (oi := { dst := some 38, op := .load 9 (.tmp 37), guard := some (11, false), .. }) rfl hS0 ?_ ?_
     ·intro w hSw
      have z := hSw.2.2.1
      go_simp
     simp only [Act.put, sA, sB, sC]
     by_cases hs : nm.toList = nm'.toList
     ·have hs0 : (nm.toList == nm'.toList) = true := by rw [beq_iff_eq]; exact hs
      rw [zf, zf] at hs
      have hs' : decide (nm.data.toList = nm'.data.toList) = true := yy hs
      rw [hs', Bool.true_and] at hZ2
      clear hs hs'
      refine tY 22 (.bool false) (oi := { dst := some 39, op := .binOp .neq 9 (.tmp 33) (.tmp 38) 9, guard := some (11, false), .. }) rfl hS0 ?_ ?_
      ·intro w hSw
       go_simp
      simp only [Act.put, sA, sB, sC]
      refine tY 23 (.bool false) (oi := { dst := some 40, op := .pick (.tmp 28) (.const (.bool true)) (.tmp 39), guard := none, .. }) rfl hS0 ?_ ?_
      ·intro w hSw
       go_simp
      simp only [Act.put, sA, sB, sC]
      refine tY 24 (.bool false) (oi := { dst := some 41, op := .move (.tmp 40), guard := none, .. }) rfl hS0 ?_ ?_
      ·intro w hSw
       go_simp
      simp only [Act.put, sA, sB, sC]
      refine tY 25 (.slice (some ⟨g1, o1, none⟩) n cc1) (oi := { dst := some 42, op := .move (.tmp 0), guard := some (24, false), .. }) rfl hS0 ?_ ?_
      ·intro w hSw
       go_simp
      simp only [Act.put, sA, sB, sC]
      refine tY 26 (.int .i64 (i : Int)) (oi := { dst := some 43, op := .move (.tmp 5), guard := some (24, false), .. }) rfl hS0 ?_ ?_
      ·intro w hSw
       go_simp
      simp only [Act.put, sA, sB, sC]
      refine tY 27 (.pointer (some ⟨g1, o1 + i * 9, none⟩)) (oi := { dst := some 44, op := .indexAddr 49 (.tmp 42) (.tmp 43), guard := some (24, false), .. }) rfl hS0 ?_ ?_
      ·intro w hSw
       go_simp
      simp only [Act.put, sA, sB, sC]
      refine tY 28 (.pointer (some ⟨g1, o1 + i * 9 + 2, none⟩)) (oi := { dst := some 45, op := .fieldAddr 51 (.tmp 44) 2, guard := some (24, false), .. }) rfl hS0 ?_ ?_
      ·intro w hSw
       go_simp
      simp only [Act.put, sA, sB, sC]
      refine tY 29 (.agg #[.int .u8 (op : Int), .int .u8 (t : Int), .int .u64 (b : Int), .string enm, .slice ea en ec]) (oi := { dst := some 46, op := .load 43 (.tmp 45), guard := some (24, false), .. }) rfl hS0 ?_ ?_
      ·intro w hSw
       have z2 := hSw.1.2.2.1
       have z3 := hSw.1.2.2.2.1
       have z4 := hSw.1.2.2.2.2.1
       have z5 := hSw.1.2.2.2.2.2.1
       have z6 := hSw.1.2.2.2.2.2.2.1
       go_simp
      simp only [Act.put, sA, sB, sC]
      refine tY 30 (.slice (some ⟨g2, o2, none⟩) n cc2) (oi := { dst := some 47, op := .move (.tmp 1), guard := some (24, false), .. }) rfl hS0 ?_ ?_
      ·intro w hSw
       go_simp
      simp only [Act.put, sA, sB, sC]
      refine tY 31 (.int .i64 (i : Int)) (oi := { dst := some 48, op := .move (.tmp 5), guard := some (24, false), .. }) rfl hS0 ?_ ?_
      ·intro w hSw
       go_simp
      simp only [Act.put, sA, sB, sC]
      refine tY 32 (.pointer (some ⟨g2, o2 + i * 9, none⟩)) (oi := { dst := some 49, op := .indexAddr 49 (.tmp 47) (.tmp 48), guard := some (24, false), .. }) rfl hS0 ?_ ?_
      ·intro w hSw
       go_simp
      simp only [Act.put, sA, sB, sC]
      refine tY 33 (.pointer (some ⟨g2, o2 + i * 9 + 2, none⟩)) (oi := { dst := some 50, op := .fieldAddr 51 (.tmp 49) 2, guard := some (24, false), .. }) rfl hS0 ?_ ?_
      ·intro w hSw
       go_simp
      simp only [Act.put, sA, sB, sC]
      refine tY 34 (.agg #[.int .u8 (op' : Int), .int .u8 (t' : Int), .int .u64 (b' : Int), .string enm', .slice ea' en' ec']) (oi := { dst := some 51, op := .load 43 (.tmp 50), guard := some (24, false), .. }) rfl hS0 ?_ ?_
      ·intro w hSw
       have z2 := hSw.2.2.2.1
       have z3 := hSw.2.2.2.2.1
       have z4 := hSw.2.2.2.2.2.1
       have z5 := hSw.2.2.2.2.2.2.1
       have z6 := hSw.2.2.2.2.2.2.2.1
       go_simp
      simp only [Act.put, sA, sB, sC]
      cases p3
      all_goals
       refine wpAnyH_ready (rs := [35]) (by kernel_rfl) (by simp) ?_
       refine AllReadyH.cons (o := { dst := some 52, op := .call { callee := .value (.func 15), args := #[.tmp 46, .tmp 51], argTypes := #[43, 43] }, guard := some (24, false), .. }) rfl (fun K hK => ?_) AllReadyH.nil
       rw [zi (by rfl)]
       go_wp2_with (go_at_call 15; refine (Q3.out _ hB0).mono ?_; rintro e x1 ⟨rfl, hb1⟩)
       have hB1 := hB0.trans (hb1.mono hB0.size)
       have hS1 := HK.out x1 hB1
       refine hK.out _ _ hS1 (fun _ => ?_)
      ·refine tY 36 (.bool true) (oi := { dst := some 53, op := .unOp .not 4 (.tmp 52), guard := some (24, false), .. }) rfl hS1 ?_ ?_
       ·intro w hSw
        go_simp
       simp only [Act.put, sA, sB, sC]
       refine tY 37 (.bool true) (oi := { dst := some 54, op := .pick (.tmp 41) (.const (.bool true)) (.tmp 53), guard := none, .. }) rfl hS1 ?_ ?_
       ·intro w hSw
        go_simp
       simp only [Act.put, sA, sB, sC]
       refine tY 38 (.bool true) (oi := { dst := some 55, op := .move (.tmp 54), guard := none, .. }) rfl hS1 ?_ ?_
       ·intro w hSw
        go_simp
       simp only [Act.put, sA, sB, sC]
       refine tNs 12 [(39, 56), (40, 57), (41, 58), (42, 59), (43, 60), (44, 61), (45, 62), (46, 63), (47, 64), (48, 65), (49, 66), (50, 67)] hS1 ?_
       simp only [List.foldl, Act.put, sA, sB, sC]
       refine tY 51 (.bool true) (oi := { dst := some 68, op := .pick (.tmp 55) (.const (.bool true)) (.tmp 67), guard := none, .. }) rfl hS1 ?_ ?_
       ·intro w hSw
        go_simp
       simp only [Act.put, sA, sB, sC]
       refine tY 52 (.bool true) (oi := { dst := some 69, op := .move (.tmp 68), guard := none, .. }) rfl hS1 ?_ ?_
       ·intro w hSw
        go_simp
       simp only [Act.put, sA, sB, sC]
       refine tNs 12 [(53, 70), (54, 71), (55, 72), (56, 73), (57, 74), (58, 75), (59, 76), (60, 77), (61, 78), (62, 79), (63, 80), (64, 81)] hS1 ?_
       simp only [List.foldl, Act.put, sA, sB, sC]
       refine tY 65 (.bool true) (oi := { dst := some 82, op := .pick (.tmp 69) (.const (.bool true)) (.tmp 81), guard := none, .. }) rfl hS1 ?_ ?_
       ·intro w hSw
        go_simp
       simp only [Act.put, sA, sB, sC]
       refine wpAnyH_done (by kernel_rfl) ?_ _
       go_wp2
       go_ret
       exact ⟨by rw [hRf.out (by first | (rw [hZ2.out]; done) | (rw [hZ2.out]; simp))]; rfl, hbw.trans (hB1.mono hbw.size)⟩
      ·refine tY 36 (.bool false) (oi := { dst := some 53, op := .unOp .not 4 (.tmp 52), guard := some (24, false), .. }) rfl hS1 ?_ ?_
       ·intro w hSw
        go_simp
       simp only [Act.put, sA, sB, sC]
       refine tY 37 (.bool false) (oi := { dst := some 54, op := .pick (.tmp 41) (.const (.bool true)) (.tmp 53), guard := none, .. }) rfl hS1 ?_ ?_
       ·intro w hSw
        go_simp
       simp only [Act.put, sA, sB, sC]
       refine tY 38 (.bool false) (oi := { dst := some 55, op := .move (.tmp 54), guard := none, .. }) rfl hS1 ?_ ?_
       ·intro w hSw
        go_simp
       simp only [Act.put, sA, sB, sC]
       refine tY 39 (.slice (some ⟨g1, o1, none⟩) n cc1) (oi := { dst := some 56, op := .move (.tmp 0), guard := some (38, false), .. }) rfl hS1 ?_ ?_
       ·intro w hSw
        go_simp
       simp only [Act.put, sA, sB, sC]
       refine tY 40 (.int .i64 (i : Int)) (oi := { dst := some 57, op := .move (.tmp 5), guard := some (38, false), .. }) rfl hS1 ?_ ?_
       ·intro w hSw
        go_simp
       simp only [Act.put, sA, sB, sC]
       refine tY 41 (.pointer (some ⟨g1, o1 + i * 9, none⟩)) (oi := { dst := some 58, op := .indexAddr 49 (.tmp 56) (.tmp 57), guard := some (38, false), .. }) rfl hS1 ?_ ?_
       ·intro w hSw
        go_simp
       simp only [Act.put, sA, sB, sC]
       refine tY 42 (.pointer (some ⟨g1, o1 + i * 9 + 7, none⟩)) (oi := { dst := some 59, op := .fieldAddr 51 (.tmp 58) 3, guard := some (38, false), .. }) rfl hS1 ?_ ?_
       ·intro w hSw
        go_simp
       simp only [Act.put, sA, sB, sC]
       refine tY 43 (.slice a1 n1 c1) (oi := { dst := some 60, op := .load 49 (.tmp 59), guard := some (38, false), .. }) rfl hS1 ?_ ?_
       ·intro w hSw
        have z := hSw.1.2.2.2.2.2.2.2.1
        go_simp
       simp only [Act.put, sA, sB, sC]
       refine tY 44 (.slice (some ⟨g2, o2, none⟩) n cc2) (oi := { dst := some 61, op := .move (.tmp 1), guard := some (38, false), .. }) rfl hS1 ?_ ?_
       ·intro w hSw
        go_simp
       simp only [Act.put, sA, sB, sC]
       refine tY 45 (.int .i64 (i : Int)) (oi := { dst := some 62, op := .move (.tmp 5), guard := some (38, false), .. }) rfl hS1 ?_ ?_
       ·intro w hSw
        go_simp
       simp only [Act.put, sA, sB, sC]
       refine tY 46 (.pointer (some ⟨g2, o2 + i * 9, none⟩)) (oi := { dst := some 63, op := .indexAddr 49 (.tmp 61) (.tmp 62), guard := some (38, false), .. }) rfl hS1 ?_ ?_
       ·intro w hSw
        go_simp
       simp only [Act.put, sA, sB, sC]
       refine tY 47 (.pointer (some ⟨g2, o2 + i * 9 + 7, none⟩)) (oi := { dst := some 64, op := .fieldAddr 51 (.tmp 63) 3, guard := some (38, false), .. }) rfl hS1 ?_ ?_
       ·intro w hSw
        go_simp
       simp only [Act.put, sA, sB, sC]
       refine tY 48 (.slice a1' n1' c1') (oi := { dst := some 65, op := .load 49 (.tmp 64), guard := some (38, false), .. }) rfl hS1 ?_ ?_
       ·intro w hSw
        have z := hSw.2.2.2.2.2.2.2.2.1
        go_simp
       simp only [Act.put, sA, sB, sC]
       cases p4
       all_goals
        refine wpAnyH_ready (rs := [49]) (by kernel_rfl) (by simp) ?_
        refine AllReadyH.cons (o := { dst := some 66, op := .call { callee := .value (.func 33), args := #[.tmp 60, .tmp 65], argTypes := #[49, 49] }, guard := some (38, false), .. }) rfl (fun K hK => ?_) AllReadyH.nil
        rw [zi (by rfl)]
        go_wp2_with (go_at_call 33; refine (Q4.out _ hB1).mono ?_; rintro e x2 ⟨rfl, hb2⟩)
        have hB2 := hB1.trans (hb2.mono hB1.size)
        have hS2 := HK.out x2 hB2
        refine hK.out _ _ hS2 (fun _ => ?_)
       ·refine tY 50 (.bool true) (oi := { dst := some 67, op := .unOp .not 4 (.tmp 66), guard := some (38, false), .. }) rfl hS2 ?_ ?_
        ·intro w hSw
         go_simp
        simp only [Act.put, sA, sB, sC]
        refine tY 51 (.bool true) (oi := { dst := some 68, op := .pick (.tmp 55) (.const (.bool true)) (.tmp 67), guard := none, .. }) rfl hS2 ?_ ?_
        ·intro w hSw
         go_simp
        simp only [Act.put, sA, sB, sC]
        refine tY 52 (.bool true) (oi := { dst := some 69, op := .move (.tmp 68), guard := none, .. }) rfl hS2 ?_ ?_
        ·intro w hSw
         go_simp
        simp only [Act.put, sA, sB, sC]
        refine tNs 12 [(53, 70), (54, 71), (55, 72), (56, 73), (57, 74), (58, 75), (59, 76), (60, 77), (61, 78), (62, 79), (63, 80), (64, 81)] hS2 ?_
        simp only [List.foldl, Act.put, sA, sB, sC]
        refine tY 65 (.bool true) (oi := { dst := some 82, op := .pick (.tmp 69) (.const (.bool true)) (.tmp 81), guard := none, .. }) rfl hS2 ?_ ?_
        ·intro w hSw
         go_simp
        simp only [Act.put, sA, sB, sC]
        refine wpAnyH_done (by kernel_rfl) ?_ _
        go_wp2
        go_ret
        exact ⟨by rw [hRf.out (by first | (rw [hZ2.out]; done) | (rw [hZ2.out]; simp))]; rfl, hbw.trans (hB2.mono hbw.size)⟩
       ·refine tY 50 (.bool false) (oi := { dst := some 67, op := .unOp .not 4 (.tmp 66), guard := some (38, false), .. }) rfl hS2 ?_ ?_
        ·intro w hSw
         go_simp
        simp only [Act.put, sA, sB, sC]
        refine tY 51 (.bool false) (oi := { dst := some 68, op := .pick (.tmp 55) (.const (.bool true)) (.tmp 67), guard := none, .. }) rfl hS2 ?_ ?_
        ·intro w hSw
         go_simp
        simp only [Act.put, sA, sB, sC]
        refine tY 52 (.bool false) (oi := { dst := some 69, op := .move (.tmp 68), guard := none, .. }) rfl hS2 ?_ ?_
        ·intro w hSw
         go_simp
        simp only [Act.put, sA, sB, sC]
        refine tY 53 (.slice (some ⟨g1, o1, none⟩) n cc1) (oi := { dst := some 70, op := .move (.tmp 0), guard := some (52, false), .. }) rfl hS2 ?_ ?_
        ·intro w hSw
         go_simp
        simp only [Act.put, sA, sB, sC]
        refine tY 54 (.int .i64 (i : Int)) (oi := { dst := some 71, op := .move (.tmp 5), guard := some (52, false), .. }) rfl hS2 ?_ ?_
        ·intro w hSw
         go_simp
        simp only [Act.put, sA, sB, sC]
        refine tY 55 (.pointer (some ⟨g1, o1 + i * 9, none⟩)) (oi := { dst := some 72, op := .indexAddr 49 (.tmp 70) (.tmp 71), guard := some (52, false), .. }) rfl hS2 ?_ ?_
        ·intro w hSw
         go_simp
        simp only [Act.put, sA, sB, sC]
        refine tY 56 (.pointer (some ⟨g1, o1 + i * 9 + 8, none⟩)) (oi := { dst := some 73, op := .fieldAddr 51 (.tmp 72) 4, guard := some (52, false), .. }) rfl hS2 ?_ ?_
        ·intro w hSw
         go_simp
        simp only [Act.put, sA, sB, sC]
        refine tY 57 (.slice a2 n2 c2) (oi := { dst := some 74, op := .load 49 (.tmp 73), guard := some (52, false), .. }) rfl hS2 ?_ ?_
        ·intro w hSw
         have z := hSw.1.2.2.2.2.2.2.2.2
         go_simp
        simp only [Act.put, sA, sB, sC]
        refine tY 58 (.slice (some ⟨g2, o2, none⟩) n cc2) (oi := { dst := some 75, op := .move (.tmp 1), guard := some (52, false), .. }) rfl hS2 ?_ ?_
        ·intro w hSw
         go_simp
        simp only [Act.put, sA, sB, sC]
        refine tY 59 (.int .i64 (i : Int)) (oi := { dst := some 76, op := .move (.tmp 5), guard := some (52, false), .. }) rfl hS2 ?_ ?_
        ·intro w hSw
         go_simp
        simp only [Act.put, sA, sB, sC]
        refine tY 60 (.pointer (some ⟨g2, o2 + i * 9, none⟩)) (oi := { dst := some 77, op := .indexAddr 49 (.tmp 75) (.tmp 76), guard := some (52, false), .. }) rfl hS2 ?_ ?_
        ·intro w hSw
         go_simp
        simp only [Act.put, sA, sB, sC]
        refine tY 61 (.pointer (some ⟨g2, o2 + i * 9 + 8, none⟩)) (oi := { dst := some 78, op := .fieldAddr 51 (.tmp 77) 4, guard := some (52, false), .. }) rfl hS2 ?_ ?_
        ·intro w hSw
         go_simp
        simp only [Act.put, sA, sB, sC]
        refine tY 62 (.slice a2' n2' c2') (oi := { dst := some 79, op := .load 49 (.tmp 78), guard := some (52, false), .. }) rfl hS2 ?_ ?_
        ·intro w hSw
         have z := hSw.2.2.2.2.2.2.2.2.2
         go_simp
        simp only [Act.put, sA, sB, sC]
        cases p5
        all_goals
         refine wpAnyH_ready (rs := [63]) (by kernel_rfl) (by simp) ?_
         refine AllReadyH.cons (o := { dst := some 80, op := .call { callee := .value (.func 33), args := #[.tmp 74, .tmp 79], argTypes := #[49, 49] }, guard := some (52, false), .. }) rfl (fun K hK => ?_) AllReadyH.nil
         rw [zi (by rfl)]
         go_wp2_with (go_at_call 33; refine (Q5.out _ hB2).mono ?_; rintro e x3 ⟨rfl, hb3⟩)
         have hB3 := hB2.trans (hb3.mono hB2.size)
         have hS3 := HK.out x3 hB3
         refine hK.out _ _ hS3 (fun _ => ?_)
        focus
         refine tY 64 (.bool true) (oi := { dst := some 81, op := .unOp .not 4 (.tmp 80), guard := some (52, false), .. }) rfl hS3 ?_ ?_
         ·intro w hSw
          go_simp
         simp only [Act.put, sA, sB, sC]
         refine tY 65 (.bool true) (oi := { dst := some 82, op := .pick (.tmp 69) (.const (.bool true)) (.tmp 81), guard := none, .. }) rfl hS3 ?_ ?_
         ·intro w hSw
          go_simp
        rotate_left
        focus
         refine tY 64 (.bool false) (oi := { dst := some 81, op := .unOp .not 4 (.tmp 80), guard := some (52, false), .. }) rfl hS3 ?_ ?_
         ·intro w hSw
          go_simp
         simp only [Act.put, sA, sB, sC]
         refine tY 65 (.bool false) (oi := { dst := some 82, op := .pick (.tmp 69) (.const (.bool true)) (.tmp 81), guard := none, .. }) rfl hS3 ?_ ?_
         ·intro w hSw
          go_simp
        rotate_left
        all_goals
         simp only [Act.put, sA, sB, sC]
         refine wpAnyH_done (by kernel_rfl) ?_ _
        ·go_wp2
         go_ret
         exact ⟨by rw [hRf.out (by first | (rw [hZ2.out]; done) | (rw [hZ2.out]; simp))]; rfl, hbw.trans (hB3.mono hbw.size)⟩
        ·have hw5 : Below w.heap.size w x3 := hbw.trans (hB3.mono hbw.size)
         go_wp2
         go_roundw
         case rel =>
          refine ⟨i + 1, by go_num, by omega, hw5, fun q u v hq hu hv => ?_⟩
          by_cases hqi : q = i
          ·subst hqi
           rw [HX.out.1] at hu
           rw [HX.out.2] at hv
           cases hu
           cases hv
           have := hZS.out
           rw [hZ2.out] at this
           simpa using this.symm
          ·exact HA.out q u v (by omega) hu hv
         case measure => simp [intOf]; omega
     ·have hs0 : (nm.toList == nm'.toList) = false := by rw [zt]; exact hs
      rw [zf, zf] at hs
      have hs' : decide (nm.data.toList = nm'.data.toList) = false := zN hs
      rw [hs', Bool.false_and] at hZ2
      clear hs hs'
      refine tY 22 (.bool true) (oi := { dst := some 39, op := .binOp .neq 9 (.tmp 33) (.tmp 38) 9, guard := some (11, false), .. }) rfl hS0 ?_ ?_
      ·intro w hSw
       go_simp
      simp only [Act.put, sA, sB, sC]
      refine tY 23 (.bool true) (oi := { dst := some 40, op := .pick (.tmp 28) (.const (.bool true)) (.tmp 39), guard := none, .. }) rfl hS0 ?_ ?_
      ·intro w hSw
       go_simp
      simp only [Act.put, sA, sB, sC]
      refine tY 24 (.bool true) (oi := { dst := some 41, op := .move (.tmp 40), guard := none, .. }) rfl hS0 ?_ ?_
      ·intro w hSw
       go_simp
      simp only [Act.put, sA, sB, sC]
      refine tNs 12 [(25, 42), (26, 43), (27, 44), (28, 45), (29, 46), (30, 47), (31, 48), (32, 49), (33, 50), (34, 51), (35, 52), (36, 53)] hS0 ?_
      simp only [List.foldl, Act.put, sA, sB, sC]
      refine tY 37 (.bool true) (oi := { dst := some 54, op := .pick (.tmp 41) (.const (.bool true)) (.tmp 53), guard := none, .. }) rfl hS0 ?_ ?_
      ·intro w hSw
       go_simp
      simp only [Act.put, sA, sB, sC]
      refine tY 38 (.bool true) (oi := { dst := some 55, op := .move (.tmp 54), guard := none, .. }) rfl hS0 ?_ ?_
      ·intro w hSw
       go_simp
      simp only [Act.put, sA, sB, sC]
      refine tNs 12 [(39, 56), (40, 57), (41, 58), (42, 59), (43, 60), (44, 61), (45, 62), (46, 63), (47, 64), (48, 65), (49, 66), (50, 67)] hS0 ?_
      simp only [List.foldl, Act.put, sA, sB, sC]
      refine tY 51 (.bool true) (oi := { dst := some 68, op := .pick (.tmp 55) (.const (.bool true)) (.tmp 67), guard := none, .. }) rfl hS0 ?_ ?_
      ·intro w hSw
       go_simp
      simp only [Act.put, sA, sB, sC]
      refine tY 52 (.bool true) (oi := { dst := some 69, op := .move (.tmp 68), guard := none, .. }) rfl hS0 ?_ ?_
      ·intro w hSw
       go_simp
      simp only [Act.put, sA, sB, sC]
      refine tNs 12 [(53, 70), (54, 71), (55, 72), (56, 73), (57, 74), (58, 75), (59, 76), (60, 77), (61, 78), (62, 79), (63, 80), (64, 81)] hS0 ?_
      simp only [List.foldl, Act.put, sA, sB, sC]
      refine tY 65 (.bool true) (oi := { dst := some 82, op := .pick (.tmp 69) (.const (.bool true)) (.tmp 81), guard := none, .. }) rfl hS0 ?_ ?_
      ·intro w hSw
       go_simp
      simp only [Act.put, sA, sB, sC]
      refine wpAnyH_done (by kernel_rfl) ?_ _
      go_wp2
      go_ret
      exact ⟨by rw [hRf.out (by first | (rw [hZ2.out]; done) | (rw [hZ2.out]; simp))]; rfl, hbw.trans (hB0.mono hbw.size)⟩
    ·have e0 : (k == k') = false := by rw [zt]; exact hk
     have hd : decide (k = k') = false := by simpa using hk
     rw [hd, Bool.false_and] at hZ2
     clear hd
     refine tY 10 (.bool true) (oi := { dst := some 27, op := .binOp .neq 3 (.tmp 21) (.tmp 26) 3, guard := none, .. }) rfl hS0 ?_ ?_
     ·intro w hSw
      go_simp
     simp only [Act.put, sA, sB, sC]
     refine tY 11 (.bool true) (oi := { dst := some 28, op := .move (.tmp 27), guard := none, .. }) rfl hS0 ?_ ?_
     ·intro w hSw
      go_simp
     simp only [Act.put, sA, sB, sC]
     refine tNs 11 [(12, 29), (13, 30), (14, 31), (15, 32), (16, 33), (17, 34), (18, 35), (19, 36), (20, 37), (21, 38), (22, 39)] hS0 ?_
     simp only [List.foldl, Act.put, sA, sB, sC]
     refine tY 23 (.bool true) (oi := { dst := some 40, op := .pick (.tmp 28) (.const (.bool true)) (.tmp 39), guard := none, .. }) rfl hS0 ?_ ?_
     ·intro w hSw
      go_simp
     simp only [Act.put, sA, sB, sC]
     refine tY 24 (.bool true) (oi := { dst := some 41, op := .move (.tmp 40), guard := none, .. }) rfl hS0 ?_ ?_
     ·intro w hSw
      go_simp
     simp only [Act.put, sA, sB, sC]
     refine tNs 12 [(25, 42), (26, 43), (27, 44), (28, 45), (29, 46), (30, 47), (31, 48), (32, 49), (33, 50), (34, 51), (35, 52), (36, 53)] hS0 ?_
     simp only [List.foldl, Act.put, sA, sB, sC]
     refine tY 37 (.bool true) (oi := { dst := some 54, op := .pick (.tmp 41) (.const (.bool true)) (.tmp 53), guard := none, .. }) rfl hS0 ?_ ?_
     ·intro w hSw
      go_simp
     simp only [Act.put, sA, sB, sC]
     refine tY 38 (.bool true) (oi := { dst := some 55, op := .move (.tmp 54), guard := none, .. }) rfl hS0 ?_ ?_
     ·intro w hSw
      go_simp
     simp only [Act.put, sA, sB, sC]
     refine tNs 12 [(39, 56), (40, 57), (41, 58), (42, 59), (43, 60), (44, 61), (45, 62), (46, 63), (47, 64), (48, 65), (49, 66), (50, 67)] hS0 ?_
     simp only [List.foldl, Act.put, sA, sB, sC]
     refine tY 51 (.bool true) (oi := { dst := some 68, op := .pick (.tmp 55) (.const (.bool true)) (.tmp 67), guard := none, .. }) rfl hS0 ?_ ?_
     ·intro w hSw
      go_simp
     simp only [Act.put, sA, sB, sC]
     refine tY 52 (.bool true) (oi := { dst := some 69, op := .move (.tmp 68), guard := none, .. }) rfl hS0 ?_ ?_
     ·intro w hSw
      go_simp
     simp only [Act.put, sA, sB, sC]
     refine tNs 12 [(53, 70), (54, 71), (55, 72), (56, 73), (57, 74), (58, 75), (59, 76), (60, 77), (61, 78), (62, 79), (63, 80), (64, 81)] hS0 ?_
     simp only [List.foldl, Act.put, sA, sB, sC]
     refine tY 65 (.bool true) (oi := { dst := some 82, op := .pick (.tmp 69) (.const (.bool true)) (.tmp 81), guard := none, .. }) rfl hS0 ?_ ?_
     ·intro w hSw
      go_simp
     simp only [Act.put, sA, sB, sC]
     refine wpAnyH_done (by kernel_rfl) ?_ _
     go_wp2
     go_ret
     exact ⟨by rw [hRf.out (by first | (rw [hZ2.out]; done) | (rw [hZ2.out]; simp))]; rfl, hbw.trans (hB0.mono hbw.size)⟩
   ·have hin : i = n := by omega
    have hRt : R = true := by
     rw [hR.out, X6, Ze, Ze, <- hn.out, <- hn'.out]
     refine ⟨rfl, fun q u v hu hv => hall q u v ?_ hu hv⟩
     have := (List.getElem?_eq_some_iff.1 hu).1
     rw [Ze, <- hn.out] at this
     omega
    clear hX hall hin HR HS
    go_wp2
    go_ret
    exact ⟨by rw [hRt]; rfl, hbw⟩
 ·have hne : ((n : Int) == (n' : Int)) = false := by rw [zt]; omega
  have hRf : R = false := by
   rw [hR.out, Bool.eq_false_iff]
   intro h
   have := (X6 _ _).1 h
   rw [Ze, Ze, <- hn.out, <- hn'.out] at this
   exact hnn this.1
  clear hnn
  go_enter Tryz.func33, Tryz.ntmps33
  go_wp2_with fail
  go_ret
  exact ⟨by rw [hRf]; rfl, Below.refl _ _⟩
theorem zeo (B : Nat) (xs ys : List ByteArray) (a1 a2 : Option Addr) (c1 c2 : Nat) (w : World) (h1 : RowN B w a1 c1 xs) (h2 : RowN B w a2 c2 ys) (hBw : B <= w.heap.size) :
  Calls Tryz.prog 32 #[.slice a1 xs.length c1, .slice a2 ys.length c2] w fun r w' => r = .returned (.bool (eqL KU (xs.map (fun s : ByteArray => s.data.toList)) (ys.map (fun s : ByteArray => s.data.toList)))) /\ Below w.heap.size w w' := by
 obtain ⟨R, hR⟩ : ∃ R, Hid (R = eqL KU (xs.map (fun s : ByteArray => s.data.toList)) (ys.map (fun s : ByteArray => s.data.toList))) := ⟨_, (rfl : _ = eqL KU _ _)⟩
 rw [<- hR.out]
 obtain ⟨n, hn⟩ : ∃ n, Hid (n = xs.length) := ⟨_, (rfl : xs.length = _)⟩
 obtain ⟨n2, hn2⟩ : ∃ n, Hid (n = ys.length) := ⟨_, (rfl : ys.length = _)⟩
 have hl1 := h1.1
 have hl2 := h2.1
 have hk1 := h1.2.1
 have hk2 := h2.2.1
 rw [<- hn.out] at hl1 hk1 ⊢
 rw [<- hn2.out] at hl2 hk2 ⊢
 have HR : Hid (RowN B w a1 c1 xs /\ RowN B w a2 c2 ys) := ⟨h1, h2⟩
 clear h1 h2
 by_cases hnn : n = n2
 ·subst hnn
  go_enter Tryz.func32, Tryz.ntmps32
  go_wp2_with fail
  go_loopw [5] (fun j wr => ∃ i : Nat, j = .int .i64 (i : Int) /\ i <= n /\ Hid (Below w.heap.size w wr /\ ∀ (q : Nat) (x y : List UInt8), q < i -> (xs.map (fun s : ByteArray => s.data.toList))[q]? = some x -> (ys.map (fun s : ByteArray => s.data.toList))[q]? = some y -> KU x y = true)) (fun j _ => n - (intOf j).toNat)
  case atStart => exact ⟨0, rfl, by omega, Below.refl _ _, fun q x y hq => by omega⟩
  case round =>
   obtain ⟨i, rfl, hi, hX⟩ := hrel
   by_cases hc : i < n
   ·obtain ⟨x, hx⟩ : ∃ k, xs[i]? = some k := ⟨xs[i]'(by rw [<- hn.out]; exact hc), by rw [yD]⟩
    obtain ⟨y, hy⟩ : ∃ k, ys[i]? = some k := ⟨ys[i]'(by rw [<- hn2.out]; exact hc), by rw [yD]⟩
    obtain ⟨hbw, hall⟩ := hX.out
    have hold : Old B w wr := Old.of_below hbw hBw
    obtain ⟨g1, o1, rfl, hg1, hr1⟩ := (HR.out.1.old hold).at i x hx
    obtain ⟨g2, o2, rfl, hg2, hr2⟩ := (HR.out.2.old hold).at i y hy
    have HA : Hid (∀ (q : Nat) (x y : List UInt8), q < i -> (xs.map (fun s : ByteArray => s.data.toList))[q]? = some x -> (ys.map (fun s : ByteArray => s.data.toList))[q]? = some y -> KU x y = true) := hall
    have HXY : Hid ((xs.map (fun s : ByteArray => s.data.toList))[i]? = some ((fun s : ByteArray => s.data.toList) x) /\ (ys.map (fun s : ByteArray => s.data.toList))[i]? = some ((fun s : ByteArray => s.data.toList) y)) := ⟨by rw [List.getElem?_map, hx]; rfl, by rw [List.getElem?_map, hy]; rfl⟩
    clear hX hold hall HR hx hy
    cases hM : KU ((fun s : ByteArray => s.data.toList) x) ((fun s : ByteArray => s.data.toList) y) with
    | false =>
     have hRf : R = false := by
      rw [hR.out, Bool.eq_false_iff]
      intro h
      have := ((Ys _ _ _).1 h).2 i _ _ HXY.out.1 HXY.out.2
      rw [hM] at this
      cases this
     have hs : (x.toList == y.toList) = false := by
      rw [zf, zf, zt]
      exact of_decide_eq_false hM
     clear hM
     go_wp2_with fail
     go_quiet (fail)
     go_wp2_with fail
     go_ret
     exact ⟨by rw [hRf]; rfl, Zb hbw _⟩
    | true =>
     have HM : Hid (KU ((fun s : ByteArray => s.data.toList) x) ((fun s : ByteArray => s.data.toList) y) = true) := hM
     have hs : (x.toList == y.toList) = true := by
      rw [zf, zf, beq_iff_eq]
      exact of_decide_eq_true hM
     clear hM
     go_wp2_with fail
     go_quiet (fail)
     go_wp2_with fail
     go_roundw
     case rel =>
      refine ⟨i + 1, by go_num, by omega, Zb hbw _, fun q u v hq hu hv => ?_⟩
      by_cases hqi : q = i
      ·subst hqi
       rw [HXY.out.1] at hu
       rw [HXY.out.2] at hv
       cases hu
       cases hv
       exact HM.out
      ·exact HA.out q u v (by omega) hu hv
     case measure => simp [intOf]; omega
   ·have hin : i = n := by omega
    obtain ⟨hbw, hall⟩ := hX.out
    have hRt : R = true := by
     rw [hR.out, Ys, Ze, Ze, <- hn.out, <- hn2.out]
     refine ⟨rfl, fun q u v hu hv => hall q u v ?_ hu hv⟩
     have := (List.getElem?_eq_some_iff.1 hu).1
     rw [Ze, <- hn.out] at this
     omega
    clear hX hall hin HR
    go_wp2
    go_ret
    exact ⟨by rw [hRt]; rfl, hbw⟩
 ·have hne : ((n : Int) == (n2 : Int)) = false := by rw [zt]; omega
  have hRf : R = false := by
   rw [hR.out, Bool.eq_false_iff]
   intro h
   have := (Ys _ _ _).1 h
   rw [Ze, Ze, <- hn.out, <- hn2.out] at this
   exact hnn this.1
  clear hnn
  go_enter Tryz.func32, Tryz.ntmps32
  go_wp2_with fail
  go_ret
  exact ⟨by rw [hRf]; rfl, Below.refl _ _⟩
theorem zaG (B : Nat) (xs ys : List VT) (a1 a2 : Option Addr) (c1 c2 : Nat) (w : World) (h1 : RowV B w a1 c1 xs) (h2 : RowV B w a2 c2 ys) (hBw : B <= w.heap.size) :
  Calls Tryz.prog 31 #[.slice a1 xs.length c1, .slice a2 ys.length c2] w fun r w' => r = .returned (.bool (eqL XF (xs.map VT.vr) (ys.map VT.vr))) /\ Below w.heap.size w w' := by
 obtain ⟨R, hR⟩ : ∃ R, Hid (R = eqL XF (xs.map VT.vr) (ys.map VT.vr)) := ⟨_, (rfl : _ = eqL XF _ _)⟩
 rw [<- hR.out]
 obtain ⟨n, hn⟩ : ∃ n, Hid (n = xs.length) := ⟨_, (rfl : xs.length = _)⟩
 obtain ⟨n2, hn2⟩ : ∃ n, Hid (n = ys.length) := ⟨_, (rfl : ys.length = _)⟩
 have hl1 := h1.1
 have hl2 := h2.1
 have hk1 := h1.2.1
 have hk2 := h2.2.1
 rw [<- hn.out] at hl1 hk1 ⊢
 rw [<- hn2.out] at hl2 hk2 ⊢
 have HR : Hid (RowV B w a1 c1 xs /\ RowV B w a2 c2 ys) := ⟨h1, h2⟩
 clear h1 h2
 by_cases hnn : n = n2
 ·subst hnn
  go_enter Tryz.func31, Tryz.ntmps31
  go_wp2_with fail
  go_loopw [5] (fun j wr => ∃ i : Nat, j = .int .i64 (i : Int) /\ i <= n /\ Hid (Below w.heap.size w wr /\ ∀ (q : Nat) (x y : Vr), q < i -> (xs.map VT.vr)[q]? = some x -> (ys.map VT.vr)[q]? = some y -> XF x y = true)) (fun j _ => n - (intOf j).toNat)
  case atStart => exact ⟨0, rfl, by omega, Below.refl _ _, fun q x y hq => by omega⟩
  case round =>
   obtain ⟨i, rfl, hi, hX⟩ := hrel
   by_cases hc : i < n
   ·obtain ⟨x, hx⟩ : ∃ k, xs[i]? = some k := ⟨xs[i]'(by rw [<- hn.out]; exact hc), by rw [yD]⟩
    obtain ⟨y, hy⟩ : ∃ k, ys[i]? = some k := ⟨ys[i]'(by rw [<- hn2.out]; exact hc), by rw [yD]⟩
    obtain ⟨hbw, hall⟩ := hX.out
    have hold : Old B w wr := Old.of_below hbw hBw
    obtain ⟨g1, o1, rfl, hg1, hr1, hi1⟩ := (HR.out.1.old hold).at i x hx
    obtain ⟨g2, o2, rfl, hg2, hr2, hi2⟩ := (HR.out.2.old hold).at i y hy
    obtain ⟨nm, t, b⟩ := x
    obtain ⟨nm', t', b'⟩ := y
    have x0 : wr.cell? ⟨g1, o1 + i * 3, none⟩ = some (.string nm) := by have := hr1 0 _ rfl; simpa using this
    have x1 : wr.cell? ⟨g1, o1 + i * 3 + 1, none⟩ = some (.int .u8 (t : Int)) := hr1 1 _ rfl
    have x2 : wr.cell? ⟨g1, o1 + i * 3 + 2, none⟩ = some (.int .u64 (b : Int)) := hr1 2 _ rfl
    have y0 : wr.cell? ⟨g2, o2 + i * 3, none⟩ = some (.string nm') := by have := hr2 0 _ rfl; simpa using this
    have y1 : wr.cell? ⟨g2, o2 + i * 3 + 1, none⟩ = some (.int .u8 (t' : Int)) := hr2 1 _ rfl
    have y2 : wr.cell? ⟨g2, o2 + i * 3 + 2, none⟩ = some (.int .u64 (b' : Int)) := hr2 2 _ rfl
    have hq := eqV nm t b nm' t' b'
    clear hr1 hr2 hi1 hi2
    have HA : Hid (∀ (q : Nat) (x y : Vr), q < i -> (xs.map VT.vr)[q]? = some x -> (ys.map VT.vr)[q]? = some y -> XF x y = true) := hall
    have HXY : Hid ((xs.map VT.vr)[i]? = some (VT.vr ⟨nm, t, b⟩) /\ (ys.map VT.vr)[i]? = some (VT.vr ⟨nm', t', b'⟩)) := ⟨by rw [List.getElem?_map, hx]; rfl, by rw [List.getElem?_map, hy]; rfl⟩
    clear hX hold hall HR hx hy
    cases hM : XF (VT.vr ⟨nm, t, b⟩) (VT.vr ⟨nm', t', b'⟩) with
    | false =>
     have hRf : R = false := by
      rw [hR.out, Bool.eq_false_iff]
      intro h
      have := ((Ys _ _ _).1 h).2 i _ _ HXY.out.1 HXY.out.2
      rw [hM] at this
      cases this
     have hq' : ∀ u, (Op.equalIn 10000 48 (.agg #[.string nm, .int .u8 (t : Int), .int .u64 (b : Int)]) (.agg #[.string nm', .int .u8 (t' : Int), .int .u64 (b' : Int)])).run Tryz.prog u = .ok false u := fun u => by rw [hq]; exact congrArg (fun z => Result.ok z u) hM
     clear hq
     clear hM
     go_wp2_with fail
     go_quiet (fail)
     go_wp2_with fail
     go_ret
     exact ⟨by rw [hRf]; rfl, Zb hbw _⟩
    | true =>
     have HM : Hid (XF (VT.vr ⟨nm, t, b⟩) (VT.vr ⟨nm', t', b'⟩) = true) := hM
     have hq' : ∀ u, (Op.equalIn 10000 48 (.agg #[.string nm, .int .u8 (t : Int), .int .u64 (b : Int)]) (.agg #[.string nm', .int .u8 (t' : Int), .int .u64 (b' : Int)])).run Tryz.prog u = .ok true u := fun u => by rw [hq]; exact congrArg (fun z => Result.ok z u) hM
     clear hq
     clear hM
     go_wp2_with fail
     go_quiet (fail)
     go_wp2_with fail
     go_roundw
     case rel =>
      refine ⟨i + 1, by go_num, by omega, Zb hbw _, fun q u v hq hu hv => ?_⟩
      by_cases hqi : q = i
      ·subst hqi
       rw [HXY.out.1] at hu
       rw [HXY.out.2] at hv
       cases hu
       cases hv
       exact HM.out
      ·exact HA.out q u v (by omega) hu hv
     case measure => simp [intOf]; omega
   ·have hin : i = n := by omega
    obtain ⟨hbw, hall⟩ := hX.out
    have hRt : R = true := by
     rw [hR.out, Ys, Ze, Ze, <- hn.out, <- hn2.out]
     refine ⟨rfl, fun q u v hu hv => hall q u v ?_ hu hv⟩
     have := (List.getElem?_eq_some_iff.1 hu).1
     rw [Ze, <- hn.out] at this
     omega
    clear hX hall hin HR
    go_wp2
    go_ret
    exact ⟨by rw [hRt]; rfl, hbw⟩
 ·have hne : ((n : Int) == (n2 : Int)) = false := by rw [zt]; omega
  have hRf : R = false := by
   rw [hR.out, Bool.eq_false_iff]
   intro h
   have := (Ys _ _ _).1 h
   rw [Ze, Ze, <- hn.out, <- hn2.out] at this
   exact hnn this.1
  clear hnn
  go_enter Tryz.func31, Tryz.ntmps31
  go_wp2_with fail
  go_ret
  exact ⟨by rw [hRf]; rfl, Below.refl _ _⟩
theorem But.setCells5 {g : Nat} {a : World} : ∀ (vs : List Value) (o : Nat) (w : World), But g a w -> But g a (w.setCells g o vs)
 | [], o, w, h => h
 | v :: vs, o, w, h => But.setCells5 vs (o + 1) _ (h.setCell o v)
theorem YR (g : Nat) : ∀ (vs : List Value) (o : Nat) (w : World), (w.setCells g o vs).heap.size = w.heap.size
 | [], o, w => rfl
 | v :: vs, o, w => by
  show ((w.setCell ⟨g, o, none⟩ v).setCells g (o + 1) vs).heap.size = _
  rw [YR]
  simp
def zb4 : List Value -> Nat -> List Value -> List Value
 | old, _, [] => old
 | old, o, v :: vs => zb4 (old.set o v) (o + 1) vs
theorem At.setCells5 {t : TypeId} {g : Nat} : ∀ (vs : List Value) (o : Nat) (old : List Value) (w : World), At t w g old -> At t (w.setCells g o vs) g (zb4 old o vs)
 | [], o, old, w, h => h
 | v :: vs, o, old, w, h => At.setCells5 vs (o + 1) _ _ (h.set o v)
theorem Z3 {w : World} {g : Nat} {nm : ByteArray} {s1 s2 : Value} (h : At 53 w g [.string nm, s1, s2]) : w.cell? ⟨g, 0, none⟩ = some (.string nm) /\ w.cell? ⟨g, 1, none⟩ = some s1 /\ w.cell? ⟨g, 2, none⟩ = some s2 := by
 refine ⟨?_, ?_, ?_⟩ <;> (rw [h.cell]; rfl)
theorem zb7 (nm : ByteArray) (a1 : Option Addr) (n1 c1 : Nat) (a2 : Option Addr) (n2 c2 : Nat) : ∀ v ∈ [Value.string nm, .slice a1 n1 c1, .slice a2 n2 c2], v.oneCell' = true := by
 intro v hv
 simp at hv
 rcases hv with rfl | rfl | rfl <;> rfl
theorem YG {P : Program} {o : Oper} {a : Act} {w : World} {K : Act -> World -> Prop} {Q : Exit -> Act -> World -> Prop} (t : TypeId) (ho : o.op = .alloc t) (cs : List Value) (n : Nat) (hz : (P.info? t).map (fun i => (i.zero, i.size)) = some (some (.agg cs.toArray), n))
  (h : ∀ w', At t w' w.heap.size cs -> Below w.heap.size w w' -> w'.heap.size = w.heap.size + 1 -> K (a.put o.dst (.pointer (some ⟨w.heap.size, 0, none⟩))) w') : o.wp P a w K Q := by
 have := h (w.alloc (.cells cs.toArray t)) (_root_.Go.heap_alloc_new w _) ((Below.refl _ w).alloc (zj _) _) (by show (w.heap.push _).size = _; simp)
 have h0 := (zero_of_info hz).1
 unfold Oper.wp execOp
 simp only [ho, Instr.alloc, Sem.run_bind, h0]
 simpa [newVar, go_sem, Value.cells] using this
theorem zba {w : World} {g o : Nat} {nm : ByteArray} {s1 s2 : Value} (h : w.rangeAt g o [.string nm, s1, s2]) : w.cell? ⟨g, o, none⟩ = some (.string nm) /\ w.cell? ⟨g, o + 1, none⟩ = some s1 /\ w.cell? ⟨g, o + 2, none⟩ = some s2 := ⟨h 0 _ rfl, h 1 _ rfl, h 2 _ rfl⟩
theorem qn (B : Nat) (M : Nat) : ∀ x : ST, SizeOf.sizeOf x < M -> ze5 B x := by
 induction M with
 | zero => intro x h; omega
 | succ M ih =>
  rintro ⟨k, nm, e, a1, c1, b1, a2, c2, b2⟩ hN
  exact ⟨XS B b1 fun s hs => ih s (by have := ST.sz1 (k := k) (nm := nm) (e := e) (a1 := a1) (a2 := a2) (c1 := c1) (c2 := c2) (els := b2) hs; omega), XS B b2 fun s hs => ih s (by have := ST.sz2 (k := k) (nm := nm) (e := e) (a1 := a1) (a2 := a2) (c1 := c1) (c2 := c2) (body := b1) hs; omega)⟩
theorem qo (B : Nat) (l : List ST) : zcy B l := XS B l fun s _ => qn B _ s (Nat.lt_succ_self _)
set_option maxHeartbeats 12800000 in
theorem ja (B : Nat) (s1 s2 s1' s2' : Value) (a3_ a3_' : Option Addr) (cc1 cc2 : Nat) (xs ys : List TT) (p1 p2_ : Bool) (w : World) (h1 : V6 w 31 #[s1, s1'] p1) (h2 : V6 w 32 #[s2, s2'] p2_) (hx : RowT B w a3_ cc1 xs) (hy : RowT B w a3_' cc2 ys) (hBw : B <= w.heap.size) :
  Calls Tryz.prog 10 #[.agg [s1, s2, .slice a3_ xs.length cc1].toArray, .agg [s1', s2', .slice a3_' ys.length cc2].toArray] w fun r w' => r = .returned (.bool (p1 && (p2_ && eqL JQ (xs.map TT.th) (ys.map TT.th)))) /\ Below w.heap.size w w' := by
 obtain ⟨R, hR⟩ : ∃ R, Hid (R = (p1 && (p2_ && eqL JQ (xs.map TT.th) (ys.map TT.th)))) := ⟨_, (rfl : _ = (p1 && (p2_ && eqL JQ _ _)))⟩
 rw [<- hR.out]
 have H1 : Hid (V6 w 31 #[s1, s1'] p1) := h1
 have H2 : Hid (V6 w 32 #[s2, s2'] p2_) := h2
 obtain ⟨n, hn⟩ : ∃ n, Hid (n = xs.length) := ⟨_, (rfl : xs.length = _)⟩
 obtain ⟨n', hn'⟩ : ∃ n, Hid (n = ys.length) := ⟨_, (rfl : ys.length = _)⟩
 have hl1 := hx.1
 have hl2 := hy.1
 have hk1 := hx.2.1
 have hk2 := hy.2.1
 rw [<- hn.out] at hl1 hk1 ⊢
 rw [<- hn'.out] at hl2 hk2 ⊢
 have HR : Hid (RowT B w a3_ cc1 xs /\ RowT B w a3_' cc2 ys) := ⟨hx, hy⟩
 clear h1 h2 hx hy
 go_enter Tryz.func10, Tryz.ntmps10
 go_wp2_with (first
  | (refine yF rfl rfl [s1, s2, .slice a3_ n cc1] rfl ?_; intro w1 hA1 hb1)
  | (refine yF rfl rfl [s1', s2', .slice a3_' n' cc2] rfl ?_; intro w2_ hA2 hb2; refine zb ?_))
 refine zd ?_
 have hA12 := hA1.below hb2
 have hbw_ : Below w.heap.size w w2_ := hb1.trans (hb2.mono hb1.size)
 have hl12 : w1.heap.size < w2_.heap.size := hA2.lt
 clear hA1 hb1 hb2
 obtain ⟨q0, q1, q2⟩ := ZK hA12
 obtain ⟨u0, u1, u2⟩ := ZK hA2
 go_wp2_with fail
 refine (H1.out _ hbw_).mono ?_
 rintro r w3_ ⟨rfl, hb3⟩
 have hA3 := hA12.below hb3
 have hA3' := hA2.below hb3
 have hw3 := hbw_.trans (hb3.mono hbw_.size)
 have hl13 : w1.heap.size < w3_.heap.size := hA3'.lt
 clear hA12 hA2 hbw_ hb3 q0 q1 q2 u0 u1 u2 hl12
 obtain ⟨q0, q1, q2⟩ := ZK hA3
 obtain ⟨u0, u1, u2⟩ := ZK hA3'
 cases p1 with
 | false =>
  go_wp2_with fail
  go_ret
  exact ⟨by rw [hR.out]; rfl, hw3⟩
 | true =>
  go_wp2_with fail
  refine (H2.out _ hw3).mono ?_
  rintro r w2 ⟨rfl, hb4⟩
  have hA4 := hA3.below hb4
  have hA4' := hA3'.below hb4
  have hbw := hw3.trans (hb4.mono hw3.size)
  have hl14 : w1.heap.size < w2.heap.size := hA4'.lt
  clear hA3 hA3' hw3 hb4 q0 q1 q2 u0 u1 u2 hl13
  obtain ⟨q0, q1, q2⟩ := ZK hA4
  obtain ⟨u0, u1, u2⟩ := ZK hA4'
  cases p2_ with
  | false =>
   go_wp2_with fail
   go_ret
   exact ⟨by rw [hR.out]; rfl, hbw⟩
  | true =>
   rw [Bool.true_and, Bool.true_and] at hR
   by_cases hnn : n = n'
   ·subst hnn
    have HBX : Hid (At 26 w2 w.heap.size [s1, s2, .slice a3_ n cc1] /\ At 26 w2 w1.heap.size [s1', s2', .slice a3_' n cc2]) := ⟨hA4, hA4'⟩
    clear hA4 hA4'
    go_wp2_with fail
    clear q0 q1 q2 u0 u1 u2
    go_loopw [5] (fun j wr => ∃ i : Nat, j = .int .i64 (i : Int) /\ i <= n /\ Hid (Below w2.heap.size w2 wr /\ ∀ (q : Nat) (x y : Th), q < i -> (xs.map TT.th)[q]? = some x -> (ys.map TT.th)[q]? = some y -> JQ x y = true)) (fun j _ => n - (intOf j).toNat)
    case atStart => exact ⟨0, rfl, by omega, Below.refl _ _, fun q x y hq => by omega⟩
    case round =>
     obtain ⟨i, rfl, hi, hX⟩ := hrel
     obtain ⟨hb2r, hall⟩ := hX.out
     obtain ⟨-, -, q2⟩ := ZK (HBX.out.1.below hb2r)
     obtain ⟨-, -, u2⟩ := ZK (HBX.out.2.below hb2r)
     have hwr : Below w.heap.size w wr := hbw.trans (hb2r.mono hbw.size)
     by_cases hc : i < n
     ·obtain ⟨x, hx⟩ : ∃ k, xs[i]? = some k := ⟨xs[i]'(by rw [<- hn.out]; exact hc), by rw [yD]⟩
      obtain ⟨y, hy⟩ : ∃ k, ys[i]? = some k := ⟨ys[i]'(by rw [<- hn'.out]; exact hc), by rw [yD]⟩
      have hold : Old B w wr := Old.of_below hwr hBw
      obtain ⟨g1, o1, rfl, hg1, hr1, hx1⟩ := (HR.out.1.old hold).at i x hx
      obtain ⟨g2, o2, rfl, hg2, hr2, hy1⟩ := (HR.out.2.old hold).at i y hy
      have HX : Hid ((xs.map TT.th)[i]? = some x.th /\ (ys.map TT.th)[i]? = some y.th) := ⟨by rw [List.getElem?_map, hx]; rfl, by rw [List.getElem?_map, hy]; rfl⟩
      have HA : Hid (∀ (q : Nat) (x y : Th), q < i -> (xs.map TT.th)[q]? = some x -> (ys.map TT.th)[q]? = some y -> JQ x y = true) := hall
      obtain ⟨Z, hZ⟩ : ∃ Z, Hid (Z = JQ x.th y.th) := ⟨_, (rfl : _ = JQ _ _)⟩
      have hRf : Hid (Z = false -> R = false) := fun hz => by
       rw [hR.out, Bool.eq_false_iff]
       intro h
       have := ((Ys _ _ _).1 h).2 i _ _ HX.out.1 HX.out.2
       rw [<- hZ.out, hz] at this
       cases this
      have hZS : Hid (Z = JQ x.th y.th) := hZ.out
      obtain ⟨nm, a1, c1, ls, a2, c2, bs⟩ := x
      obtain ⟨nm', a1', c1', ls', a2', c2', bs'⟩ := y
      have hZ2 : Hid (Z = (decide (nm.data.toList = nm'.data.toList) && (eqL XF (ls.map VT.vr) (ls'.map VT.vr) && samSL (bs.map ST.st) (bs'.map ST.st)))) := hZ.out
      have hsz : B <= wr.heap.size := by have := hwr.size; omega
      have k2 : V6 wr 31 #[.slice a1 ls.length c1, .slice a1' ls'.length c1'] (eqL XF (ls.map VT.vr) (ls'.map VT.vr)) := fun w' h => zaG B ls ls' a1 a1' c1 c1' w' (hx1.1.old (Old.of_below h hsz)) (hy1.1.old (Old.of_below h hsz)) (by have := h.size; omega)
      have k3 : V6 wr 33 #[.slice a2 bs.length c2, .slice a2' bs'.length c2'] (samSL (bs.map ST.st) (bs'.map ST.st)) := fun w' h => qo B bs bs' a2 a2' c2 c2' w' (hx1.2.old (Old.of_below h hsz)) (hy1.2.old (Old.of_below h hsz)) (by have := h.size; omega)
      generalize eqL XF (ls.map VT.vr) (ls'.map VT.vr) = p2 at k2 hZ2
      generalize samSL (bs.map ST.st) (bs'.map ST.st) = p3 at k3 hZ2
      simp only [TT.cells] at hr1 hr2
      generalize ls.length = n1 at k2 hr1
      generalize ls'.length = n1' at k2 hr2
      generalize bs.length = n2 at k3 hr1
      generalize bs'.length = n2' at k3 hr2
      have HE : Hid (∀ w', Below wr.heap.size wr w' -> (w'.cell? ⟨g1, o1 + i * 3, none⟩ = some (.string nm) /\ w'.cell? ⟨g1, o1 + i * 3 + 1, none⟩ = some (.slice a1 n1 c1) /\ w'.cell? ⟨g1, o1 + i * 3 + 2, none⟩ = some (.slice a2 n2 c2)) /\ (w'.cell? ⟨g2, o2 + i * 3, none⟩ = some (.string nm') /\ w'.cell? ⟨g2, o2 + i * 3 + 1, none⟩ = some (.slice a1' n1' c1') /\ w'.cell? ⟨g2, o2 + i * 3 + 2, none⟩ = some (.slice a2' n2' c2'))) := fun w' h => ⟨zba ((Old.of_below (B := B) h hsz).range hg1 hr1), zba ((Old.of_below (B := B) h hsz).range hg2 hr2)⟩
      have HB : Hid (∀ w', Below wr.heap.size wr w' -> w'.cell? ⟨w.heap.size, 2, none⟩ = some (.slice (some ⟨g1, o1, none⟩) n cc1) /\ w'.cell? ⟨w1.heap.size, 2, none⟩ = some (.slice (some ⟨g2, o2, none⟩) n cc2)) := fun w' h => ⟨(ZK ((HBX.out.1.below hb2r).below h)).2.2, (ZK ((HBX.out.2.below hb2r).below h)).2.2⟩
      have Q2 : Hid (V6 wr 31 #[.slice a1 n1 c1, .slice a1' n1' c1'] p2) := k2
      have Q3 : Hid (V6 wr 33 #[.slice a2 n2 c2, .slice a2' n2' c2'] p3) := k3
      have hS0 : Below wr.heap.size wr wr.drew := Below.drew (Below.refl _ _)
      clear hX hall hx hy hold hr1 hr2 hx1 hy1 k2 k3 HR hZ HBX
      go_wp2_with fail
      refine wp_region_held_drew (S := fun x => Below wr.heap.size wr x) (by kernel_rfl) hS0 (fun _ => ?_)
      refine tY 0 (.pointer (some ⟨w.heap.size, 2, none⟩)) (oi := { dst := some 38, op := .fieldAddr 26 (.tmp 2) 2, guard := none, .. }) rfl hS0 ?_ ?_
      ·intro w hSw
       go_simp
      simp only [Act.put, sA, sB, sC]
      refine tY 1 (.slice (some ⟨g1, o1, none⟩) n cc1) (oi := { dst := some 39, op := .load 24 (.tmp 38), guard := none, .. }) rfl hS0 ?_ ?_
      ·intro w hSw
       have z := (HB.out w hSw).1
       go_simp
      simp only [Act.put, sA, sB, sC]
      refine tY 2 (.int .i64 (i : Int)) (oi := { dst := some 40, op := .move (.tmp 5), guard := none, .. }) rfl hS0 ?_ ?_
      ·intro w hSw
       go_simp
      simp only [Act.put, sA, sB, sC]
      refine tY 3 (.pointer (some ⟨g1, o1 + i * 3, none⟩)) (oi := { dst := some 41, op := .indexAddr 24 (.tmp 39) (.tmp 40), guard := none, .. }) rfl hS0 ?_ ?_
      ·intro w hSw
       go_simp
      simp only [Act.put, sA, sB, sC]
      refine tY 4 (.agg #[.string nm, .slice a1 n1 c1, .slice a2 n2 c2]) (oi := { dst := some 42, op := .load 53 (.tmp 41), guard := none, .. }) rfl hS0 ?_ ?_
      ·intro w hSw
       obtain ⟨z0, z1, z2⟩ := (HE.out w hSw).1
       go_simp
      simp only [Act.put, sA, sB, sC]
      refine tY 5 (.pointer (some ⟨w1.heap.size, 2, none⟩)) (oi := { dst := some 43, op := .fieldAddr 26 (.tmp 3) 2, guard := none, .. }) rfl hS0 ?_ ?_
      ·intro w hSw
       go_simp
      simp only [Act.put, sA, sB, sC]
      refine tY 6 (.slice (some ⟨g2, o2, none⟩) n cc2) (oi := { dst := some 44, op := .load 24 (.tmp 43), guard := none, .. }) rfl hS0 ?_ ?_
      ·intro w hSw
       have z := (HB.out w hSw).2
       go_simp
      simp only [Act.put, sA, sB, sC]
      refine tY 7 (.int .i64 (i : Int)) (oi := { dst := some 45, op := .move (.tmp 5), guard := none, .. }) rfl hS0 ?_ ?_
      ·intro w hSw
       go_simp
      simp only [Act.put, sA, sB, sC]
      refine tY 8 (.pointer (some ⟨g2, o2 + i * 3, none⟩)) (oi := { dst := some 46, op := .indexAddr 24 (.tmp 44) (.tmp 45), guard := none, .. }) rfl hS0 ?_ ?_
      ·intro w hSw
       go_simp
      simp only [Act.put, sA, sB, sC]
      refine tY 9 (.agg #[.string nm', .slice a1' n1' c1', .slice a2' n2' c2']) (oi := { dst := some 47, op := .load 53 (.tmp 46), guard := none, .. }) rfl hS0 ?_ ?_
      ·intro w hSw
       obtain ⟨z0, z1, z2⟩ := (HE.out w hSw).2
       go_simp
      simp only [Act.put, sA, sB, sC]
      refine wpAnyH_ready (rs := [10, 11]) (by kernel_rfl) (by simp) ?_
      refine AllReadyH.cons (o := { dst := some 6, op := .alloc 53, guard := none, .. }) rfl (fun K hK => ?_) (AllReadyH.cons (o := { dst := some 7, op := .alloc 53, guard := none, .. }) rfl (fun K hK => ?_) AllReadyH.nil)
      ·skip
       rw [zi (by rfl)]
       refine YG (P := Tryz.prog) 53 rfl _ 3 z42 ?_
       intro v1 hV1 hbv1 hsv1
       have hS1 := hS0.trans (hbv1.mono hS0.size)
       refine hK.out _ _ hS1 (fun _ => ?_)
       refine wpAnyH_ready (rs := [11]) (by kernel_rfl) (by simp) ?_
       refine AllReadyH.cons (o := { dst := some 7, op := .alloc 53, guard := none, .. }) rfl (fun K hK => ?_) AllReadyH.nil
       rw [zi (by rfl)]
       refine YG (P := Tryz.prog) 53 rfl _ 3 z42 ?_
       intro v2 hV2 hbv2 hsv2
       have hS2 := hS1.trans (hbv2.mono hS1.size)
       refine hK.out _ _ hS2 (fun _ => ?_)
       have hsv1' : v1.heap.size = wr.heap.size + 1 := hsv1
       have hV1 : At 53 v1 wr.heap.size _ := hV1
       have hX2 := (hV1.below hbv2)
       have hY2 := hV2
       refine wpAnyH_ready (rs := [12]) (by kernel_rfl) (by simp) ?_
       refine AllReadyH.cons (o := { dst := none, op := .store 53 (.tmp 6) (.tmp 42), guard := none, .. }) rfl (fun K hK => ?_) AllReadyH.nil
       rw [zi (by rfl)]
       refine wp_store_mid (P := Tryz.prog) 53 (.tmp 6) (.tmp 42) rfl (wr.heap.size) 0 [.string nm, .slice a1 n1 c1, .slice a2 n2 c2].toArray rfl rfl (hX2.there 0 _ (zj _)) i42 (all_oneCell_toArray (zb7 _ _ _ _ _ _ _)) ?_
       obtain ⟨v3, hv3⟩ : ∃ v, v = v2.setCells (wr.heap.size) 0 [.string nm, .slice a1 n1 c1, .slice a2 n2 c2].toArray.toList := ⟨_, rfl⟩
       have hBu3 : But (wr.heap.size) v2 v3 := by rw [hv3]; exact But.setCells5 _ _ _ (But.refl _ _)
       have hX3 : At 53 v3 (wr.heap.size) [.string nm, .slice a1 n1 c1, .slice a2 n2 c2] := by rw [hv3]; exact At.setCells5 _ 0 _ _ hX2
       have hsz3 : v3.heap.size = v2.heap.size := by rw [hv3]; exact YR _ _ _ _
       have hY3 := hBu3.at hY2 (by show _ ≠ _; first | (have hd : wr.drew.heap.size = wr.heap.size := rfl; omega))
       have hS3 : Below wr.heap.size wr v3 := hBu3.below hS2 (by have hd : wr.drew.heap.size = wr.heap.size := rfl; omega) hS2.size
       rw [<- hv3]
       clear hv3
       refine hK.out _ _ hS3 (fun _ => ?_)
       refine wpAnyH_ready (rs := [13]) (by kernel_rfl) (by simp) ?_
       refine AllReadyH.cons (o := { dst := none, op := .store 53 (.tmp 7) (.tmp 47), guard := none, .. }) rfl (fun K hK => ?_) AllReadyH.nil
       rw [zi (by rfl)]
       refine wp_store_mid (P := Tryz.prog) 53 (.tmp 7) (.tmp 47) rfl (v1.heap.size) 0 [.string nm', .slice a1' n1' c1', .slice a2' n2' c2'].toArray rfl rfl (hY3.there 0 _ (zj _)) i42 (all_oneCell_toArray (zb7 _ _ _ _ _ _ _)) ?_
       obtain ⟨v4, hv4⟩ : ∃ v, v = v3.setCells (v1.heap.size) 0 [.string nm', .slice a1' n1' c1', .slice a2' n2' c2'].toArray.toList := ⟨_, rfl⟩
       have hBu4 : But (v1.heap.size) v3 v4 := by rw [hv4]; exact But.setCells5 _ _ _ (But.refl _ _)
       have hY4 : At 53 v4 (v1.heap.size) [.string nm', .slice a1' n1' c1', .slice a2' n2' c2'] := by rw [hv4]; exact At.setCells5 _ 0 _ _ hY3
       have hX4 := hBu4.at hX3 (by show _ ≠ _; first | (have hd : wr.drew.heap.size = wr.heap.size := rfl; omega))
       have hS4 : Below wr.heap.size wr v4 := hBu4.below hS3 (by have hd : wr.drew.heap.size = wr.heap.size := rfl; omega) hS3.size
       rw [<- hv4]
       clear hv4 hBu3 hBu4 hX3 hY3 hX2 hY2 hV1 hV2 hbv1 hbv2 hsv1 hsv1' hsv2 hsz3
       refine hK.out _ _ hS4 (fun _ => ?_)
       refine wpAnyH_done (by kernel_rfl) ?_ _
       obtain ⟨r0, r1, r2⟩ := Z3 hX4
       obtain ⟨s0, s1, s2⟩ := Z3 hY4
       by_cases hs : nm.toList = nm'.toList
       ·have hs0 : (nm.toList == nm'.toList) = true := by rw [beq_iff_eq]; exact hs
        rw [zf, zf] at hs
        have hs' : decide (nm.data.toList = nm'.data.toList) = true := yy hs
        rw [hs', Bool.true_and] at hZ2
        clear hs hs'
        go_wp2_with fail
        refine (Q2.out _ hS4).mono ?_
        rintro r v5 ⟨rfl, hb5⟩
        have hX5 := hX4.below hb5
        have hY5 := hY4.below hb5
        have hS5 := hS4.trans (hb5.mono hS4.size)
        clear hX4 hY4 r0 r1 r2 s0 s1 s2
        obtain ⟨r0, r1, r2⟩ := Z3 hX5
        obtain ⟨s0, s1, s2⟩ := Z3 hY5
        cases p2 with
        | false =>
         go_wp2_with fail
         go_ret
         exact ⟨by rw [hRf.out (by first | (rw [hZ2.out]; done) | (rw [hZ2.out]; simp))]; rfl, hwr.trans (hS5.mono hwr.size)⟩
        | true =>
         go_wp2_with fail
         refine (Q3.out _ hS5).mono ?_
         rintro r v6 ⟨rfl, hb6⟩
         have hS6 := hS5.trans (hb6.mono hS5.size)
         clear hX5 hY5 r0 r1 r2 s0 s1 s2
         cases p3 with
         | false =>
          go_wp2_with fail
          go_ret
          exact ⟨by rw [hRf.out (by first | (rw [hZ2.out]; done) | (rw [hZ2.out]; simp))]; rfl, hwr.trans (hS6.mono hwr.size)⟩
         | true =>
          have hw6 : Below w2.heap.size w2 v6 := hb2r.trans (hS6.mono hb2r.size)
          go_wp2_with fail
          go_roundw
          case rel =>
           refine ⟨i + 1, by go_num, by omega, hw6, fun q u v hq hu hv => ?_⟩
           by_cases hqi : q = i
           ·subst hqi
            rw [HX.out.1] at hu
            rw [HX.out.2] at hv
            cases hu
            cases hv
            have := hZS.out
            rw [hZ2.out] at this
            simpa using this.symm
           ·exact HA.out q u v (by omega) hu hv
          case measure => simp [intOf]; omega
       ·have hs0 : (nm.toList == nm'.toList) = false := by rw [zt]; exact hs
        rw [zf, zf] at hs
        have hs' : decide (nm.data.toList = nm'.data.toList) = false := zN hs
        rw [hs', Bool.false_and] at hZ2
        clear hs hs'
        go_wp2_with fail
        go_ret
        exact ⟨by rw [hRf.out hZ2.out]; rfl, hwr.trans (hS4.mono hwr.size)⟩
      ·skip
       rw [zi (by rfl)]
       refine YG (P := Tryz.prog) 53 rfl _ 3 z42 ?_
       intro v1 hV1 hbv1 hsv1
       have hS1 := hS0.trans (hbv1.mono hS0.size)
       refine hK.out _ _ hS1 (fun _ => ?_)
       refine wpAnyH_ready (rs := [10]) (by kernel_rfl) (by simp) ?_
       refine AllReadyH.cons (o := { dst := some 6, op := .alloc 53, guard := none, .. }) rfl (fun K hK => ?_) AllReadyH.nil
       rw [zi (by rfl)]
       refine YG (P := Tryz.prog) 53 rfl _ 3 z42 ?_
       intro v2 hV2 hbv2 hsv2
       have hS2 := hS1.trans (hbv2.mono hS1.size)
       refine hK.out _ _ hS2 (fun _ => ?_)
       have hsv1' : v1.heap.size = wr.heap.size + 1 := hsv1
       have hV1 : At 53 v1 wr.heap.size _ := hV1
       have hX2 := hV2
       have hY2 := (hV1.below hbv2)
       refine wpAnyH_ready (rs := [12]) (by kernel_rfl) (by simp) ?_
       refine AllReadyH.cons (o := { dst := none, op := .store 53 (.tmp 6) (.tmp 42), guard := none, .. }) rfl (fun K hK => ?_) AllReadyH.nil
       rw [zi (by rfl)]
       refine wp_store_mid (P := Tryz.prog) 53 (.tmp 6) (.tmp 42) rfl (v1.heap.size) 0 [.string nm, .slice a1 n1 c1, .slice a2 n2 c2].toArray rfl rfl (hX2.there 0 _ (zj _)) i42 (all_oneCell_toArray (zb7 _ _ _ _ _ _ _)) ?_
       obtain ⟨v3, hv3⟩ : ∃ v, v = v2.setCells (v1.heap.size) 0 [.string nm, .slice a1 n1 c1, .slice a2 n2 c2].toArray.toList := ⟨_, rfl⟩
       have hBu3 : But (v1.heap.size) v2 v3 := by rw [hv3]; exact But.setCells5 _ _ _ (But.refl _ _)
       have hX3 : At 53 v3 (v1.heap.size) [.string nm, .slice a1 n1 c1, .slice a2 n2 c2] := by rw [hv3]; exact At.setCells5 _ 0 _ _ hX2
       have hsz3 : v3.heap.size = v2.heap.size := by rw [hv3]; exact YR _ _ _ _
       have hY3 := hBu3.at hY2 (by show _ ≠ _; first | (have hd : wr.drew.heap.size = wr.heap.size := rfl; omega))
       have hS3 : Below wr.heap.size wr v3 := hBu3.below hS2 (by have hd : wr.drew.heap.size = wr.heap.size := rfl; omega) hS2.size
       rw [<- hv3]
       clear hv3
       refine hK.out _ _ hS3 (fun _ => ?_)
       refine wpAnyH_ready (rs := [13]) (by kernel_rfl) (by simp) ?_
       refine AllReadyH.cons (o := { dst := none, op := .store 53 (.tmp 7) (.tmp 47), guard := none, .. }) rfl (fun K hK => ?_) AllReadyH.nil
       rw [zi (by rfl)]
       refine wp_store_mid (P := Tryz.prog) 53 (.tmp 7) (.tmp 47) rfl (wr.heap.size) 0 [.string nm', .slice a1' n1' c1', .slice a2' n2' c2'].toArray rfl rfl (hY3.there 0 _ (zj _)) i42 (all_oneCell_toArray (zb7 _ _ _ _ _ _ _)) ?_
       obtain ⟨v4, hv4⟩ : ∃ v, v = v3.setCells (wr.heap.size) 0 [.string nm', .slice a1' n1' c1', .slice a2' n2' c2'].toArray.toList := ⟨_, rfl⟩
       have hBu4 : But (wr.heap.size) v3 v4 := by rw [hv4]; exact But.setCells5 _ _ _ (But.refl _ _)
       have hY4 : At 53 v4 (wr.heap.size) [.string nm', .slice a1' n1' c1', .slice a2' n2' c2'] := by rw [hv4]; exact At.setCells5 _ 0 _ _ hY3
       have hX4 := hBu4.at hX3 (by show _ ≠ _; first | (have hd : wr.drew.heap.size = wr.heap.size := rfl; omega))
       have hS4 : Below wr.heap.size wr v4 := hBu4.below hS3 (by have hd : wr.drew.heap.size = wr.heap.size := rfl; omega) hS3.size
       rw [<- hv4]
       clear hv4 hBu3 hBu4 hX3 hY3 hX2 hY2 hV1 hV2 hbv1 hbv2 hsv1 hsv1' hsv2 hsz3
       refine hK.out _ _ hS4 (fun _ => ?_)
       refine wpAnyH_done (by kernel_rfl) ?_ _
       obtain ⟨r0, r1, r2⟩ := Z3 hX4
       obtain ⟨s0, s1, s2⟩ := Z3 hY4
       by_cases hs : nm.toList = nm'.toList
       ·have hs0 : (nm.toList == nm'.toList) = true := by rw [beq_iff_eq]; exact hs
        rw [zf, zf] at hs
        have hs' : decide (nm.data.toList = nm'.data.toList) = true := yy hs
        rw [hs', Bool.true_and] at hZ2
        clear hs hs'
        go_wp2_with fail
        refine (Q2.out _ hS4).mono ?_
        rintro r v5 ⟨rfl, hb5⟩
        have hX5 := hX4.below hb5
        have hY5 := hY4.below hb5
        have hS5 := hS4.trans (hb5.mono hS4.size)
        clear hX4 hY4 r0 r1 r2 s0 s1 s2
        obtain ⟨r0, r1, r2⟩ := Z3 hX5
        obtain ⟨s0, s1, s2⟩ := Z3 hY5
        cases p2 with
        | false =>
         go_wp2_with fail
         go_ret
         exact ⟨by rw [hRf.out (by first | (rw [hZ2.out]; done) | (rw [hZ2.out]; simp))]; rfl, hwr.trans (hS5.mono hwr.size)⟩
        | true =>
         go_wp2_with fail
         refine (Q3.out _ hS5).mono ?_
         rintro r v6 ⟨rfl, hb6⟩
         have hS6 := hS5.trans (hb6.mono hS5.size)
         clear hX5 hY5 r0 r1 r2 s0 s1 s2
         cases p3 with
         | false =>
          go_wp2_with fail
          go_ret
          exact ⟨by rw [hRf.out (by first | (rw [hZ2.out]; done) | (rw [hZ2.out]; simp))]; rfl, hwr.trans (hS6.mono hwr.size)⟩
         | true =>
          have hw6 : Below w2.heap.size w2 v6 := hb2r.trans (hS6.mono hb2r.size)
          go_wp2_with fail
          go_roundw
          case rel =>
           refine ⟨i + 1, by go_num, by omega, hw6, fun q u v hq hu hv => ?_⟩
           by_cases hqi : q = i
           ·subst hqi
            rw [HX.out.1] at hu
            rw [HX.out.2] at hv
            cases hu
            cases hv
            have := hZS.out
            rw [hZ2.out] at this
            simpa using this.symm
           ·exact HA.out q u v (by omega) hu hv
          case measure => simp [intOf]; omega
       ·have hs0 : (nm.toList == nm'.toList) = false := by rw [zt]; exact hs
        rw [zf, zf] at hs
        have hs' : decide (nm.data.toList = nm'.data.toList) = false := zN hs
        rw [hs', Bool.false_and] at hZ2
        clear hs hs'
        go_wp2_with fail
        go_ret
        exact ⟨by rw [hRf.out hZ2.out]; rfl, hwr.trans (hS4.mono hwr.size)⟩
     ·have hin : i = n := by omega
      have hRt : R = true := by
       rw [hR.out, Ys, Ze, Ze, <- hn.out, <- hn'.out]
       refine ⟨rfl, fun q u v hu hv => hall q u v ?_ hu hv⟩
       have := (List.getElem?_eq_some_iff.1 hu).1
       rw [Ze, <- hn.out] at this
       omega
      clear hX hall hin HR HBX
      go_wp2
      go_ret
      exact ⟨by rw [hRt]; rfl, hwr⟩
   ·have hne : ((n : Int) == (n' : Int)) = false := by rw [zt]; omega
    have hRf : R = false := by
     rw [hR.out, Bool.eq_false_iff]
     intro h
     have := (Ys _ _ _).1 h
     rw [Ze, Ze, <- hn.out, <- hn'.out] at this
     exact hnn this.1
    clear hnn
    go_wp2_with fail
    go_ret
    exact ⟨by rw [hRf]; rfl, hbw⟩
theorem XT (B : Nat) (x y : PT) (w : World) (hx : x.In B w) (hy : y.In B w) (hBw : B <= w.heap.size) :
  Calls Tryz.prog 10 #[.agg x.cells.toArray, .agg y.cells.toArray] w fun r w' => r = .returned (.bool (zgl x.pg y.pg)) /\ Below w.heap.size w w' := by
 have hO : ∀ w', Below w.heap.size w w' -> Old B w w' /\ B <= w'.heap.size := fun w' h => ⟨Old.of_below h hBw, by have := h.size; omega⟩
 exact ja B (.slice x.a1 x.shared.length x.c1) (.slice x.a2 x.mutexes.length x.c2) (.slice y.a1 y.shared.length y.c1) (.slice y.a2 y.mutexes.length y.c2) x.a3 y.a3 x.c3 y.c3 x.threads y.threads _ _ w
  (fun w' h => zaG B x.shared y.shared x.a1 y.a1 x.c1 y.c1 w' (hx.1.old (hO w' h).1) (hy.1.old (hO w' h).1) (hO w' h).2)
  (fun w' h => zeo B x.mutexes y.mutexes x.a2 y.a2 x.c2 y.c2 w' (hx.2.1.old (hO w' h).1) (hy.2.1.old (hO w' h).1) (hO w' h).2)
  hx.2.2 hy.2.2 hBw
mutual
def exW : Ex -> Nat
 | .mk _ _ _ nm ks => nm.length + 1 + exWs ks
def exWs : List Ex -> Nat
 | [] => 0
 | e :: r => exW e + exWs r
end
mutual
def stW : St -> Nat
 | .mk _ nm e b c => nm.length + 1 + exW e + stWs b + stWs c
def stWs : List St -> Nat
 | [] => 0
 | e :: r => stW e + stWs r
end
def vrW (v : Vr) : Nat := v.nm.length + 1
def thW (t : Th) : Nat := t.nm.length + 1 + (t.locals.map vrW).sum + stWs t.body
def pgW (p : Pg) : Nat := (p.shared.map vrW).sum + (p.mutexes.map fun m => m.length + 1).sum + (p.threads.map thW).sum
def tkW : List Tk -> Nat
 | [] => 0
 | t :: r => t.text.length + 1 + tkW r
theorem Yu (l : List Tk) : tkW l.tail <= tkW l := by
 cases l with
 | nil => exact zj _
 | cons t r => simp only [List.tail_cons, tkW]; omega
theorem J9 {l : List Tk} (h : (hdT l).text ≠ []) : tkW l = (hdT l).text.length + 1 + tkW l.tail := by
 cases l with
 | nil => exact absurd rfl h
 | cons t r => rfl
theorem Z7 {l : List Tk} (h : (hdT l).text ≠ []) : 2 + tkW l.tail <= tkW l := by
 rw [J9 h]
 have := List.length_pos_iff.2 h
 omega
def Rs.Lw {α : Type} (f : α -> Nat) (R : Rs α) (n : Nat) : Prop := match R with
 | .ok v r => f v + tkW r <= n
 | .bad _ _ => True
theorem Rs.Lw.bind {α β : Type} {R : Rs α} {k : α -> List Tk -> Rs β} {f : α -> Nat} {g : β -> Nat} {m n : Nat} (h : R.Lw f m) (hk : ∀ v r, f v + tkW r <= m -> (k v r).Lw g n) : (R.bind k).Lw g n := by
 cases R with
 | ok v r => exact hk v r h
 | bad e p => trivial
theorem Rs.Lw.mono {α : Type} {R : Rs α} {f : α -> Nat} {m n : Nat} (h : R.Lw f m) (hm : m <= n) : R.Lw f n := by
 cases R with
 | ok v r => exact zQ h hm
 | bad e p => trivial
theorem Kk {p op : Nat} {ks : List Ex} {r r' : List Tk} {e : Ex} (h : yg p op ks r = .ok e r') : exW e = 1 + exWs ks /\ r' = r := by
 unfold yg at h
 split at h
 ·cases h
 ·cases h
  exact ⟨by rw [exW]; simp, rfl⟩
theorem zfC {l r : List Tk} {e : Ex} (h : ZN l = .ok e r) : exW e + tkW r <= tkW l := by
 unfold ZN at h
 split at h
 ·next v hv =>
  cases h
  have hn := Kq (t := hdT l) (by rw [hv]; rfl)
  cases l with
  | nil => rcases hn with q | q <;> exact absurd rfl q
  | cons t r => simp only [exW, exWs, JG, List.tail_cons, tkW]; omega
 ·split at h
  ·next hn =>
   cases h
   rw [J9 (Km hn)]
   simp only [exW, exWs]
   omega
  ·cases h
theorem qk {x : List UInt8} {l r : List Tk} {u : Unit} (hx : x ≠ []) (h : zq x l = .ok u r) : 2 + tkW r <= tkW l := by
 unfold zq at h
 split at h
 ·next hc =>
  cases h
  exact Z7 (by rw [hc]; exact hx)
 ·cases h
theorem zdr {t : List UInt8} (h : 1 <= (zB t).2) : t ≠ [] := by
 rintro rfl
 revert h
 decide
theorem jt {t : List UInt8} (h : zL t ≠ 0) : t ≠ [] := by
 rintro rfl
 exact h (by decide)
theorem zgn (f : Nat) :
  (∀ n d l e r, 1 <= n -> y6 f n d l = some (.ok e r) -> exW e + tkW r <= tkW l) /\
  (∀ n m d x l e r, 1 <= n -> loopF f n m d x l = some (.ok e r) -> exW e + tkW r <= exW x + tkW l) /\
  (∀ d l e r, operF f d l = some (.ok e r) -> exW e + tkW r <= tkW l) /\
  (∀ d l e r, brkF f d l = some (.ok e r) -> exW e + tkW r <= tkW l) := by
 induction f with
 | zero => exact ⟨fun n d l e r _ h => by simp [y6] at h, fun n m d x l e r _ h => by simp [loopF] at h, fun d l e r h => by simp [operF] at h, fun d l e r h => by simp [brkF] at h⟩
 | succ f ih =>
  obtain ⟨ih1, ih2, ih3, ih4⟩ := ih
  refine ⟨fun n d l e r hn h => ?_, fun n m d x l e r hn h => ?_, fun d l e r h => ?_, fun d l e r h => ?_⟩
  ·rw [y6] at h
   split at h
   ·cases h
   ·cases h
   ·next hc =>
    have h1 := ih3 _ _ _ _ hc
    have h2 := ih2 _ _ _ _ _ _ _ hn h
    omega
  ·rw [loopF] at h
   split at h
   ·cases h
    exact zj _
   ·next hb =>
    have hne := Z7 (zdr (t := (hdT l).text) (by omega))
    split at h
    ·cases h
    ·cases h
    ·next hc =>
     have h1 := ih1 _ _ _ _ _ (by omega) hc
     split at h
     ·cases h
     ·next hq =>
      obtain ⟨h2, rfl⟩ := Kk hq
      have h3 := ih2 _ _ _ _ _ _ _ hn h
      simp only [exWs] at h2
      omega
  ·rw [operF] at h
   split at h
   ·exact zfC (yZ h)
   ·split at h
    ·cases h
    ·split at h
     ·next ho =>
      have hne := Z7 (jt (t := (hdT l).text) (by omega))
      split at h
      ·cases h
      ·cases h
      ·next hc =>
       have h1 := ih3 _ _ _ _ hc
       obtain ⟨h2, rfl⟩ := Kk (yZ h)
       simp only [exWs] at h2
       omega
     ·split at h
      ·exact ih4 _ _ _ _ h
      ·next ho =>
       have hne := Z7 (jt (t := (hdT l).text) ho)
       split at h
       ·cases h
       ·cases h
       ·next hc =>
        have h1 := ih4 _ _ _ _ hc
        obtain ⟨h2, rfl⟩ := Kk (yZ h)
        simp only [exWs] at h2
        omega
  ·rw [brkF] at h
   split at h
   ·cases h
   ·next hm =>
    have h0 := qk (by decide) hm
    split at h
    ·cases h
    ·cases h
    ·next hc =>
     have h1 := ih1 _ _ _ _ _ (by omega) hc
     split at h
     ·cases h
     ·next hm2 =>
      have h2 := qk (by decide) hm2
      cases h
      omega
theorem J2 (l : List Tk) : (yd l).Lw exW (tkW l) := by
 have h := Ji l
 cases hc : yd l with
 | bad e p => trivial
 | ok e r =>
  rw [hc] at h
  exact (zgn _).1 _ _ _ _ _ (by omega) h
theorem X8 (l : List Tk) : (zM l).Lw (fun x => x.length + 1) (tkW l) := by
 unfold zM
 split
 ·next h => show (hdT l).text.length + 1 + tkW l.tail <= tkW l; rw [J9 (Km h)]; omega
 ·trivial
theorem Xj {x : List UInt8} (l : List Tk) (hx : x ≠ []) : (zq x l).Lw (fun _ => 2) (tkW l) := by
 cases h : zq x l with
 | bad e p => trivial
 | ok u r => exact qk hx h
theorem ze8 (l : List Tk) : (ZI l).Lw (fun _ => 2) (tkW l) := by
 unfold ZI
 split
 ·next h => exact Z7 (by rw [h]; decide)
 ·split
  ·next h => exact Z7 (by rw [h]; decide)
  ·split
   ·next h => exact Z7 (by rw [h]; decide)
   ·trivial
theorem qO (m : Bool) (t p : Nat) (l : List Tk) : (yI m t p l).Lw (fun _ => 0) (tkW l) := by
 unfold yI
 split
 ·trivial
 ·split
  ·trivial
  ·split
   ·show 0 + tkW l.tail <= _
    have := Yu l
    omega
   ·trivial
theorem zfF (t : Nat) (l : List Tk) : (Zj t l).Lw (fun _ => 0) (tkW l) := by
 have h1 := Yu l
 unfold Zj
 split
 ·unfold Zh
  have h2 := Yu l.tail
  split
  ·exact (qO _ _ _ _).mono (by omega)
  ·exact (qO _ _ _ _).mono (by omega)
 ·show 0 + tkW l <= _
  omega
theorem Jq (l : List Tk) : (yA l).Lw vrW (tkW l) :=
 (X8 l).bind fun x r h1 => (ze8 r).bind fun t r2 h2 => (zfF t r2).bind fun v r3 h3 => (Xj r3 (by decide)).bind fun _ r4 h4 => by
  show x.length + 1 + tkW r4 <= _
  omega
theorem zeb : exW noE = 1 := by decide
theorem zcL (l : List Tk) : (Zr l).Lw stW (tkW l) := by
 unfold Zr
 split
 ·next h =>
  have h0 := J9 (l := l) (by rw [h]; decide)
  rw [h] at h0
  simp only [VX, JG] at h0
  refine (X8 l.tail).bind fun x r h1 => ?_
  show stW (.mk 2 x noE [] []) + tkW r <= _
  simp only [stW, stWs, zeb]
  omega
 ·split
  ·next h =>
   have h0 := J9 (l := l) (by rw [h]; decide)
   rw [h] at h0
   simp only [VX, JG] at h0
   refine (X8 l.tail).bind fun x r h1 => ?_
   show stW (.mk 3 x noE [] []) + tkW r <= _
   simp only [stW, stWs, zeb]
   omega
  ·split
   ·next h =>
    have h0 := Z7 (l := l) (by rw [h]; decide)
    refine (J2 l.tail).bind fun x r h1 => ?_
    show stW (.mk 4 [] x [] []) + tkW r <= _
    simp only [stW, stWs, JG]
    omega
   ·split
    ·next h =>
     have h0 := Z7 (l := l) (by rw [h]; decide)
     show stW (.mk 7 [] noE [] []) + tkW l.tail <= _
     simp only [stW, stWs, zeb, JG]
     omega
    ·refine (X8 l).bind fun x r h1 => (Xj r (by decide)).bind fun _ r2 h2 => (J2 r2).bind fun e r3 h3 => ?_
     show stW (.mk 1 x e [] []) + tkW r3 <= _
     simp only [stW, stWs]
     omega
theorem zgf (f : Nat) : ∀ (d : Nat) (l : List Tk), (Yh f d l).Lw stW (tkW l) /\ (elseR f d l).Lw stWs (tkW l) /\ (blockR f d l).Lw stWs (tkW l) /\ (stmtsR f d l).Lw stWs (tkW l) := by
 induction f with
 | zero => exact fun d l => ⟨by rw [Yh]; trivial, by rw [elseR]; trivial, by rw [blockR]; trivial, by rw [stmtsR]; trivial⟩
 | succ f ih =>
  intro d l
  refine ⟨?_, ?_, ?_, ?_⟩
  ·rw [Yh]
   split
   ·next h =>
    have h0 := Z7 (l := l) (by rw [h]; decide)
    refine (J2 l.tail).bind fun e r h1 => ((ih d r).2.2.1).bind fun b r2 h2 => ((ih d r2).2.1).bind fun c r3 h3 => ?_
    show stW (.mk 5 [] e b c) + tkW r3 <= _
    simp only [stW, JG]
    omega
   ·split
    ·next h =>
     have h0 := Z7 (l := l) (by rw [h]; decide)
     refine (J2 l.tail).bind fun e r h1 => ((ih d r).2.2.1).bind fun b r2 h2 => ?_
     show stW (.mk 6 [] e b []) + tkW r2 <= _
     simp only [stW, stWs, JG]
     omega
    ·refine (zcL l).bind fun s r h1 => (Xj r (by decide)).bind fun _ r2 h2 => ?_
     show stW s + tkW r2 <= _
     omega
  ·rw [elseR]
   split
   ·exact ((ih d l.tail).2.2.1).mono (Yu l)
   ·show 0 + tkW l <= _
    omega
  ·rw [blockR]
   refine (Xj l (by decide)).bind fun _ r h1 => ?_
   split
   ·trivial
   ·exact ((ih (d + 1) r).2.2.2).mono (by omega)
  ·rw [stmtsR]
   split
   ·show 0 + tkW l.tail <= _
    have := Yu l
    omega
   ·refine ((ih d l).1).bind fun s r h1 => ((ih d r).2.2.2).bind fun ss r2 h2 => ?_
    show stWs (s :: ss) + tkW r2 <= _
    simp only [stWs]
    omega
theorem zcZ (f : Nat) : ∀ l : List Tk, (ym f l).Lw (fun vs => (vs.map vrW).sum) (tkW l) := by
 induction f with
 | zero => exact fun l => trivial
 | succ f ih =>
  intro l
  have h0 := Yu l
  rw [ym]
  split
  ·refine (Jq l.tail).bind fun v r h1 => (ih r).bind fun vs r2 h2 => ?_
   show ((v :: vs).map vrW).sum + tkW r2 <= _
   simp only [Yi, List.sum_cons]
   omega
  ·show 0 + tkW l <= _
   omega
theorem zcG (l : List Tk) : (Zf l).Lw thW (tkW l) :=
 (X8 l).bind fun x r h1 => (Xj r (by decide)).bind fun _ r2 h2 => (zcZ _ r2).bind fun vs r3 h3 => ((zgf _ 0 r3).2.2.2).bind fun b r4 h4 => by
  show x.length + 1 + (vs.map vrW).sum + stWs b + tkW r4 <= _
  omega
theorem zeL (f : Nat) : ∀ l : List Tk, (yx f l).Lw (fun x => (x.1.map vrW).sum + (x.2.map fun m => m.length + 1).sum) (tkW l) := by
 induction f with
 | zero => exact fun l => trivial
 | succ f ih =>
  intro l
  have h0 := Yu l
  rw [yx]
  split
  ·refine (Jq l.tail).bind fun v r h1 => (ih r).bind fun x r2 h2 => ?_
   show ((v :: x.1).map vrW).sum + (x.2.map fun m => m.length + 1).sum + tkW r2 <= _
   simp only [Yi, List.sum_cons]
   omega
  ·split
   ·refine (X8 l.tail).bind fun m r h1 => (Xj r (by decide)).bind fun _ r2 h2 => (ih r2).bind fun x r3 h3 => ?_
    show (x.1.map vrW).sum + ((m :: x.2).map fun m => m.length + 1).sum + tkW r3 <= _
    simp only [Yi, List.sum_cons]
    omega
   ·show 0 + tkW l <= _
    omega
theorem za8 (f : Nat) : ∀ l : List Tk, (zA f l).Lw (fun ts => (ts.map thW).sum) (tkW l) := by
 induction f with
 | zero => exact fun l => trivial
 | succ f ih =>
  intro l
  have h0 := Yu l
  rw [zA]
  split
  ·refine (zcG l.tail).bind fun t r h1 => (ih r).bind fun ts r2 h2 => ?_
   show ((t :: ts).map thW).sum + tkW r2 <= _
   simp only [Yi, List.sum_cons]
   omega
  ·show 0 + tkW l <= _
   omega
theorem zbn (l : List Tk) : (yf l).Lw pgW (tkW l) :=
 (zeL _ l).bind fun x r h1 => (za8 _ r).bind fun ts r2 h2 => by
  show (x.1.map vrW).sum + (x.2.map fun m => m.length + 1).sum + (ts.map thW).sum + tkW r2 <= _
  omega
theorem jT : ∀ a b : List Tk, tkW (a ++ b) = tkW a + tkW b
 | [], b => by simp [tkW]
 | t :: r, b => by
  show t.text.length + 1 + tkW (r ++ b) = t.text.length + 1 + tkW r + tkW b
  rw [jT r b]
  omega
theorem zfY {t : Tk} {r : Out} {n : Nat} (hr : tkW r.toks <= n) : tkW (r.ahead [t]).toks <= t.text.length + 1 + n := by
 unfold Out.ahead
 split
 ·show tkW ([t] ++ r.toks) <= _
  rw [jT]
  show t.text.length + 1 + 0 + tkW r.toks <= _
  omega
 ·omega
theorem zgB (l : List UInt8) (f : Nat) : ∀ p, tkW (ZR l f p).toks <= f * (l.length + 1) := by
 induction f with
 | zero => intro p; simp [ZR, tkW]
 | succ f ih =>
  intro p
  rw [ZR]
  dsimp only
  split
  ·simp [tkW]
  ·split
   ·simp [tkW]
   ·split
    ·simp [tkW]
    ·refine zQ (zfY (ih _)) ?_
     have h1 : (Xn (zI (l.drop p)).1 ((l.drop p).take (zI (l.drop p)).2) p).text.length <= l.length := by
      show ((l.drop p).take (zI (l.drop p)).2).length <= _
      rw [Yj, yC]
      omega
     rw [Nat.add_mul]
     omega
theorem zdS (l : List UInt8) : tkW (yK l) <= 536870912 := by
 unfold yK
 rw [jT]
 have h0 : tkW (y9 l).toks <= 16385 * 16385 := by
  unfold y9
  split
  ·simp [tkW]
  ·next h => exact zQ (zgB l _ _) (Nat.mul_le_mul (by omega) (by omega))
 have h1 : tkW [(⟨0, [], l.length, 0⟩ : Tk)] = 1 := rfl
 omega
theorem zam {l : List UInt8} {p : Pg} {r : List Tk} (h : yf (yK l) = .ok p r) : pgW p <= 536870912 := by
 have h1 := zbn (yK l)
 rw [h] at h1
 have h1 : pgW p + tkW r <= tkW (yK l) := h1
 have := zdS l
 omega
def Kin (K : Nat) (u v : Value) : Prop := v = u \/ (∃ k a b, u = .int k a /\ v = .int k b) \/ ∃ s t : ByteArray, u = .string s /\ v = .string t /\ t.size <= s.size + K
theorem Kin.mono {K L : Nat} (h : K <= L) {u v : Value} (k : Kin K u v) : Kin L u v := by
 rcases k with k | k | ⟨s, t, h1, h2, h3⟩
 ·exact .inl k
 ·exact .inr (.inl k)
 ·exact .inr (.inr ⟨s, t, h1, h2, by omega⟩)
theorem Kin.slice {K : Nat} {a : Option Addr} {n c : Nat} {v : Value} (k : Kin K (.slice a n c) v) : v = .slice a n c := by
 rcases k with k | ⟨_, _, _, h, _⟩ | ⟨_, _, h, _⟩
 ·exact k
 ·cases h
 ·cases h
theorem Kin.int {K : Nat} {i : IntKind} {a : Int} {v : Value} (k : Kin K (.int i a) v) : ∃ b, v = .int i b := by
 rcases k with k | ⟨_, _, b, h, h'⟩ | ⟨_, _, h, _⟩
 ·exact ⟨a, k⟩
 ·cases h
  exact ⟨b, h'⟩
 ·cases h
theorem Kin.str {K : Nat} {s : ByteArray} {v : Value} (k : Kin K (.string s) v) : ∃ t, v = .string t /\ t.size <= s.size + K := by
 rcases k with k | ⟨_, _, _, h, _⟩ | ⟨_, t, h, h1, h2⟩
 ·exact ⟨s, k, by omega⟩
 ·cases h
 ·cases h
  exact ⟨t, h1, h2⟩
structure Ov (U : Nat -> Prop) (x0 K : Nat) (w0 w : World) : Prop where
 os : w.os = w0.os
 tape : w.tape = w0.tape
 output : w.output = w0.output
 size : w0.heap.size <= w.heap.size
 stand : ∀ g, ¬ U g -> g ≠ x0 -> g < w0.heap.size -> w.heap[g]? = w0.heap[g]?
 soft : ∀ g, U g -> Soft w g
 cell : ∀ g o u, U g -> w0.cell? ⟨g, o, none⟩ = some u -> ∃ v, w.cell? ⟨g, o, none⟩ = some v /\ Kin K u v
theorem Ov.refl (U : Nat -> Prop) (x0 : Nat) (w : World) (h : ∀ g, U g -> Soft w g) : Ov U x0 0 w w := ⟨rfl, rfl, rfl, zj _, fun _ _ _ _ => rfl, h, fun _ _ u _ h => ⟨u, h, .inl rfl⟩⟩
section
variable {U : Nat -> Prop} {x0 K : Nat} {w0 w : World} {g : Nat}
theorem Ov.mono {L : Nat} (h : K <= L) (k : Ov U x0 K w0 w) : Ov U x0 L w0 w :=
 ⟨k.os, k.tape, k.output, k.size, k.stand, k.soft, fun g o u f hu => by obtain ⟨v, h1, h2⟩ := k.cell g o u f hu; exact ⟨v, h1, h2.mono h⟩⟩
theorem Ov.frozen (k : Ov U x0 K w0 w) (f : U g) (o : Nat) : w.frozen? ⟨g, o, none⟩ = false := by
 obtain ⟨t, cs, hA, -⟩ := k.soft g f
 exact hA.frozen o
theorem Ov.lt (k : Ov U x0 K w0 w) (f : U g) : g < w.heap.size := by
 obtain ⟨t, cs, hA, -⟩ := k.soft g f
 exact hA.lt
theorem Ov.slice (k : Ov U x0 K w0 w) (f : U g) {o : Nat} {a : Option Addr} {n c : Nat} (h : w0.cell? ⟨g, o, none⟩ = some (.slice a n c)) : w.cell? ⟨g, o, none⟩ = some (.slice a n c) := by
 obtain ⟨v, h1, h2⟩ := k.cell g o _ f h
 rw [h1, h2.slice]
theorem Ov.int (k : Ov U x0 K w0 w) (f : U g) {o : Nat} {i : IntKind} {a : Int} (h : w0.cell? ⟨g, o, none⟩ = some (.int i a)) : ∃ b, w.cell? ⟨g, o, none⟩ = some (.int i b) := by
 obtain ⟨v, h1, h2⟩ := k.cell g o _ f h
 obtain ⟨b, rfl⟩ := h2.int
 exact ⟨b, h1⟩
theorem Ov.str (k : Ov U x0 K w0 w) (f : U g) {o : Nat} {s : ByteArray} (h : w0.cell? ⟨g, o, none⟩ = some (.string s)) : ∃ t : ByteArray, w.cell? ⟨g, o, none⟩ = some (.string t) /\ t.size <= s.size + K := by
 obtain ⟨v, h1, h2⟩ := k.cell g o _ f h
 obtain ⟨t, rfl, h3⟩ := h2.str
 exact ⟨t, h1, h3⟩
theorem Ov.set (k : Ov U x0 K w0 w) (f : U g) {o : Nat} {u v : Value} (hu : w0.cell? ⟨g, o, none⟩ = some u) (hk : Kin K u v) : Ov U x0 K w0 (w.setCell ⟨g, o, none⟩ v) := by
 have hb : But g w (w.setCell ⟨g, o, none⟩ v) := (But.refl g w).setCell o v
 obtain ⟨t, cs, hA, ht⟩ := k.soft g f
 have hl := hA.lt
 have hA' := hA.set o v
 refine ⟨hb.os.trans k.os, hb.tape.trans k.tape, hb.output.trans k.output, zQ k.size hb.size, fun g' f' hx hl' => ?_, fun g' f' => ?_, fun g' o' u' f' hu' => ?_⟩
 ·rw [hb.block g' (Zy hl' k.size) (fun e => by subst e; exact f' f)]
  exact k.stand g' f' hx hl'
 ·by_cases e : g' = g
  ·subst e
   exact ⟨t, _, hA', ht⟩
  ·exact (k.soft g' f').keep (hb.block g' (k.lt f') e)
 ·by_cases e : g' = g
  ·subst e
   by_cases e2 : o' = o
   ·subst e2
    rw [hu] at hu'
    cases hu'
    obtain ⟨v0, h1, -⟩ := k.cell g' o' u f hu
    rw [hA.cell] at h1
    have h3 := (List.getElem?_eq_some_iff.1 h1).1
    refine ⟨v, ?_, hk⟩
    rw [hA'.cell, List.getElem?_set_self h3]
   ·obtain ⟨v0, h1, h2⟩ := k.cell g' o' u' f hu'
    refine ⟨v0, ?_, h2⟩
    rw [hA'.cell, List.getElem?_set_ne (by omega), <- hA.cell]
    exact h1
  ·obtain ⟨v0, h1, h2⟩ := k.cell g' o' u' f' hu'
   refine ⟨v0, ?_, h2⟩
   rw [World.cell?_of_block (w := w) (hb.block g' (k.lt f') e)]
   exact h1
theorem Ov.but {x1 : Nat} {w' : World} (k : Ov U x0 K w0 w) (h0 : U x0) (h1 : ¬ U x1) (hb : But x1 w w') : Ov U x1 K w0 w' :=
 ⟨hb.os.trans k.os, hb.tape.trans k.tape, hb.output.trans k.output, zQ k.size hb.size, fun g f hx hl => (hb.block g (Zy hl k.size) hx).trans (k.stand g f (fun e => f (by rw [e]; exact h0)) hl),
  fun g f => (k.soft g f).keep (hb.block g (k.lt f) (fun e => h1 (by rw [<- e]; exact f))), fun g o u f hu => by
  obtain ⟨v, h2, h3⟩ := k.cell g o u f hu
  exact ⟨v, by rw [World.cell?_of_block (w := w) (hb.block g (k.lt f) (fun e => h1 (by rw [<- e]; exact f)))]; exact h2, h3⟩⟩
end
theorem ET.LiesL.mem {S : Nat -> Prop} : ∀ {l : List ET}, ET.LiesL S l -> ∀ e ∈ l, e.Lies S
 | [], _, e, h => by cases h
 | x :: r, k, e, h => by
  unfold ET.LiesL at k
  rcases List.mem_cons.1 h with rfl | h
  ·exact k.1
  ·exact ET.LiesL.mem k.2 e h
theorem ST.LiesL.mem {S : Nat -> Prop} : ∀ {l : List ST}, ST.LiesL S l -> ∀ e ∈ l, e.Lies S
 | [], _, e, h => by cases h
 | x :: r, k, e, h => by
  unfold ST.LiesL at k
  rcases List.mem_cons.1 h with rfl | h
  ·exact k.1
  ·exact ST.LiesL.mem k.2 e h
theorem XW : ∀ (ks : List Ex) (i : Nat) (k : Ex), ks[i]? = some k -> exWs (ks.take (i + 1)) = exWs (ks.take i) + exW k
 | [], i, k, h => by simp at h
 | e :: r, 0, k, h => by
  simp at h
  subst h
  simp [exWs]
 | e :: r, i + 1, k, h => by
  have := XW r i k (by simpa using h)
  simp only [Y8, exWs]
  omega
theorem V1 : ∀ (ks : List Ex) (i : Nat), exWs (ks.take i) <= exWs ks
 | [], i => by simp
 | e :: r, 0 => by simp [exWs]
 | e :: r, i + 1 => by
  have := V1 r i
  simp only [Y8, exWs]
  omega
theorem XK : ∀ (ks : List St) (i : Nat) (k : St), ks[i]? = some k -> stWs (ks.take (i + 1)) = stWs (ks.take i) + stW k
 | [], i, k, h => by simp at h
 | e :: r, 0, k, h => by
  simp at h
  subst h
  simp [stWs]
 | e :: r, i + 1, k, h => by
  have := XK r i k (by simpa using h)
  simp only [Y8, stWs]
  omega
theorem VK : ∀ (ks : List St) (i : Nat), stWs (ks.take i) <= stWs ks
 | [], i => by simp
 | e :: r, 0 => by simp [stWs]
 | e :: r, i + 1 => by
  have := VK r i
  simp only [Y8, stWs]
  omega
theorem JO {ops : Array Oper} {rest : List Oper} {o : Oper} {a : Act} {w : World} {Q : Exit -> Act -> World -> Prop} (hgd : o.guard = none) (x y : Operand) (ho : o.op = .store 36 x y) (g off : Nat) (n : Int)
  (hx : a.eval x = .pointer (some ⟨g, off, none⟩)) (hy : a.eval y = .int .u8 n) (u : Value) (r : w.cell? ⟨g, off, none⟩ = some u) (f : w.frozen? ⟨g, off, none⟩ = false)
  (h : wpList Tryz.prog ops Q rest (a.put o.dst undef) (w.setCell ⟨g, off, none⟩ (.int .u8 n))) : wpList Tryz.prog ops Q (o :: rest) a w := by
 refine wpList_plain hgd fun K hK => ?_
 have hH := hK _ _ h
 clear hK h
 unfold Oper.wp execOp
 simp only [ho, hx, hy]
 go_simp
 exact hH
theorem V8 {ops : Array Oper} {rest : List Oper} {o : Oper} {a : Act} {w : World} {Q : Exit -> Act -> World -> Prop} (hgd : o.guard = none) (x y : Operand) (ho : o.op = .store 3 x y) (g off : Nat) (n : Int)
  (hx : a.eval x = .pointer (some ⟨g, off, none⟩)) (hy : a.eval y = .int .i64 n) (u : Value) (r : w.cell? ⟨g, off, none⟩ = some u) (f : w.frozen? ⟨g, off, none⟩ = false)
  (h : wpList Tryz.prog ops Q rest (a.put o.dst undef) (w.setCell ⟨g, off, none⟩ (.int .i64 n))) : wpList Tryz.prog ops Q (o :: rest) a w := by
 refine wpList_plain hgd fun K hK => ?_
 have hH := hK _ _ h
 clear hK h
 unfold Oper.wp execOp
 simp only [ho, hx, hy]
 go_simp
 exact hH
theorem Zg {ops : Array Oper} {rest : List Oper} {o : Oper} {a : Act} {w : World} {Q : Exit -> Act -> World -> Prop} (hgd : o.guard = none) (x y : Operand) (ho : o.op = .store 9 x y) (g off : Nat) (s : ByteArray)
  (hx : a.eval x = .pointer (some ⟨g, off, none⟩)) (hy : a.eval y = .string s) (u : Value) (r : w.cell? ⟨g, off, none⟩ = some u) (f : w.frozen? ⟨g, off, none⟩ = false)
  (h : wpList Tryz.prog ops Q rest (a.put o.dst undef) (w.setCell ⟨g, off, none⟩ (.string s))) : wpList Tryz.prog ops Q (o :: rest) a w := by
 refine wpList_plain hgd fun K hK => ?_
 have hH := hK _ _ h
 clear hK h
 unfold Oper.wp execOp
 simp only [ho, hx, hy]
 go_simp
 exact hH
theorem K4 (a : Option Addr) (w : World) : Calls Tryz.prog 34 #[.slice a 0 0] w fun r w' => r = .returned (.tuple #[]) /\ w' = w := by
 cases a
 rotate_left
 focus
  rename_i ad
 rotate_left
 all_goals
  go_enter Tryz.func34, Tryz.ntmps34
  go_wp2_with fail
  go_loopw [3] (fun j wr => j = .int .i64 0 /\ wr = w) (fun j _ => 0)
  case atStart => exact ⟨rfl, rfl⟩
  case round =>
   obtain ⟨rfl, rfl⟩ := hrel
   go_wp2_with fail
   go_end0
   exact ⟨rfl, rfl⟩
def TxW (N : Nat) (cs : List Value) : Prop := ∀ (j : Nat) (u : Value), cs[j]? = some u -> ∃ s : ByteArray, u = .string s /\ s.size <= N
theorem K5 (g k n : Nat) (cs : List Value) (hn : cs.length = n) (hn63 : n <= 9223372036854775807) (hk : k <= n) (hT : TxW 1073741824 cs) (w : World) (hA : At 9 w g cs) :
  Calls Tryz.prog 34 #[.slice (some ⟨g, 0, none⟩) k n] w fun r w' => r = .returned (.tuple #[]) /\ But g w w' := by
 have HI : Hid (∃ ds : List Value, ds.length = n /\ At 9 w g ds /\ (∀ (j : Nat) (u : Value), ds[j]? = some u -> ∃ s : ByteArray, u = .string s /\ (0 <= j -> s.size <= 1073741824)) /\ But g w w) := ⟨cs, hn, hA, fun j u hj => by obtain ⟨s, h1, h2⟩ := hT j u hj; exact ⟨s, h1, fun _ => h2⟩, But.refl _ _⟩
 clear hn hT hA
 go_enter Tryz.func34, Tryz.ntmps34
 go_wp2_with fail
 go_loopw [3] (fun j wr => ∃ i : Nat, j = .int .i64 (i : Int) /\ i <= n /\ Hid (∃ ds : List Value, ds.length = n /\ At 9 wr g ds /\ (∀ (j : Nat) (u : Value), ds[j]? = some u -> ∃ s : ByteArray, u = .string s /\ (i <= j -> s.size <= 1073741824)) /\ But g w wr)) (fun j _ => n - (intOf j).toNat)
 case atStart => exact ⟨0, rfl, Vm _, HI⟩
 case round =>
  clear HI
  obtain ⟨i, rfl, hi, hX⟩ := hrel
  by_cases hc : i < n
  ·obtain ⟨ds, hd, hA, hT, hb⟩ := hX.out
   obtain ⟨s, hs, hsz⟩ := hT i (ds[i]'(by omega)) (by rw [yD])
   have hsz := hsz (zj _)
   have r0 : wr.cell? ⟨g, i, none⟩ = some (.string s) := by rw [hA.cell, yD (by omega), hs]
   have f0 := hA.frozen i
   have hs1 : s.size + 1 <= 9223372036854775807 := by omega
   have HQ : Hid (ds.length = n /\ At 9 wr g ds /\ (∀ (j : Nat) (u : Value), ds[j]? = some u -> ∃ s : ByteArray, u = .string s /\ (i <= j -> s.size <= 1073741824)) /\ But g w wr) := ⟨hd, hA, hT, hb⟩
   clear hX hd hA hT hb hs hsz
   go_wp2_with (first
    | (refine Zg rfl (.tmp 21) (.tmp 20) rfl g i _ (by first | rfl | (simp; done)) rfl _ r0 f0 ?_; refine zb ?_))
   all_goals first
    | (exfalso; omega)
    | skip
   refine zd ?_
   generalize hw4 : wr.setCell ⟨g, i, none⟩ _ = w4
   have HV4 : Hid (∃ ds : List Value, ds.length = n /\ At 9 w4 g ds /\ (∀ (j : Nat) (u : Value), ds[j]? = some u -> ∃ s : ByteArray, u = .string s /\ (i + 1 <= j -> s.size <= 1073741824)) /\ But g w w4) := by
    obtain ⟨hd, hA, hT, hb⟩ := HQ.out
    rw [<- hw4]
    refine ⟨_, ?_, hA.set i _, fun j u hj => ?_, hb.setCell i _⟩
    ·rw [List.length_set]; exact hd
    ·by_cases e : i = j
     ·subst e
      rw [List.getElem?_set_self (by omega)] at hj
      cases hj
      exact ⟨_, rfl, fun q => by omega⟩
     ·rw [List.getElem?_set_ne e] at hj
      obtain ⟨s, h1, h2⟩ := hT j u hj
      exact ⟨s, h1, fun q => h2 (by omega)⟩
   clear hw4 HQ r0 f0 hs1
   go_wp2_with fail
   go_roundw
   case rel => exact ⟨i + 1, by go_num, by omega, HV4⟩
   case measure => simp [intOf]; omega
  ·obtain ⟨ds, hd, hA, hT, hb⟩ := hX.out
   have HB : Hid (But g w wr) := hb
   have hin : i = n := by omega
   subst hin
   clear hX hd hA hT hb
   go_wp2_with fail
   go_end0
   exact ⟨rfl, HB.out⟩
def zf2 (U : Nat -> Prop) (x0 B : Nat) (w0 : World) (x : ET) : Prop := ∀ g o K w, x.In B w0 -> x.Lies (U) -> w0.rangeAt g o x.cells -> U g -> Ov U x0 K w0 w -> K + exW x.ex <= 281474976710656 -> Calls Tryz.prog 69 #[.pointer (some ⟨g, o, none⟩)] w fun r w' => r = .returned (.tuple #[]) /\ Ov U x0 (K + exW x.ex) w0 w'
theorem zaq (U : Nat -> Prop) (x0 B : Nat) (w0 : World) (op t b : Nat) (nm : ByteArray) (a : Option Addr) (c : Nat) (ks : List ET) (hS : ∀ k ∈ ks, zf2 U x0 B w0 k) : zf2 U x0 B w0 (.mk op t b nm a c ks) := by
 intro g o K w hin hli hr hf hov hK
 have eW : exW (ET.mk op t b nm a c ks).ex = nm.data.toList.length + 1 + exWs (ks.map ET.ex) := by
  show exW (Ex.mk op t b nm.data.toList (ET.exs ks)) = _
  rw [exW, ET.exs_eq]
 rw [eW] at hK ⊢
 have esz : nm.size = nm.data.toList.length := by rw [Array.length_toList]; rfl
 unfold ET.In at hin
 obtain ⟨-, -, -, x1, x2, x3⟩ := hin
 unfold ET.Lies at hli
 obtain ⟨n, hn⟩ : ∃ n, Hid (n = ks.length) := ⟨_, (rfl : ks.length = _)⟩
 obtain ⟨c0, c1, c2, c3, c4⟩ := qw (s := .slice a ks.length c) hr
 obtain ⟨M, hM⟩ : ∃ M, Hid (M = exWs (ks.map ET.ex)) := ⟨_, (rfl : exWs (ks.map ET.ex) = _)⟩
 obtain ⟨Z, hZ⟩ : ∃ Z, Hid (Z = nm.data.toList.length) := ⟨_, (rfl : nm.data.toList.length = _)⟩
 have HR : Hid (RowE B w0 a c ks) := ⟨x1, x2, x3⟩
 rw [<- hn.out] at x1 x2 c4
 rw [<- hM.out, <- hZ.out] at hK ⊢
 have HC : Hid (w0.cell? ⟨g, o, none⟩ = some (.int .u8 (op : Int)) /\ w0.cell? ⟨g, o + 3, none⟩ = some (.string nm) /\ w0.cell? ⟨g, o + 4, none⟩ = some (.slice a n c)) := ⟨c0, c3, c4⟩
 have HN : Hid (nm.size = Z) := by show nm.size = Z; rw [hZ.out]; exact esz
 have HS : Hid (∀ k ∈ ks, zf2 U x0 B w0 k) := hS
 have HL : Hid ((ks = [] \/ ∃ g o, a = some ⟨g, o, none⟩ /\ U g) /\ ET.LiesL (U) ks) := hli
 have HV : Hid (Ov U x0 K w0 w) := hov
 have HF : Hid (U g) := hf
 clear hS hli hr c0 c1 c2 c3 c4 x3 hov hf esz eW
 go_enter Tryz.func69, Tryz.ntmps69
 go_wp2_with fail
 go_loopw [2] (fun j wr => ∃ i : Nat, j = .int .i64 (i : Int) /\ i <= n /\ Ov U x0 (K + exWs ((ks.map ET.ex).take i)) w0 wr) (fun j _ => n - (intOf j).toNat)
 case atStart => exact ⟨0, rfl, Vm _, HV.out.mono (by omega)⟩
 case round =>
  obtain ⟨i, rfl, hi, hv⟩ := hrel
  have r4 := hv.slice HF.out HC.out.2.2
  have HV2 : Hid (Ov U x0 (K + exWs ((ks.map ET.ex).take i)) w0 wr) := hv
  clear hv HV
  by_cases hc : i < n
  ·obtain ⟨x, hx⟩ : ∃ k, ks[i]? = some k := ⟨ks[i]'(by rw [<- hn.out]; exact hc), by rw [yD]⟩
   obtain ⟨g1, o1, rfl, hg1, hr1, hx1⟩ := HR.out.at i x hx
   have hm := List.mem_of_getElem? hx
   have hg1 : U g1 := by
    rcases HL.out.1 with q | ⟨g', o', e', q⟩
    ·rw [q] at hm; cases hm
    ·cases e'; exact q
   have e3 := XW (ks.map ET.ex) i x.ex (by rw [List.getElem?_map, hx]; rfl)
   have e4 := V1 (ks.map ET.ex) (i + 1)
   have hC := HS.out x hm g1 (o1 + i * 5) _ wr hx1 (HL.out.2.mem x hm) hr1 hg1 HV2.out (by rw [Nat.add_assoc, <- e3]; have := hM.out; omega)
   rw [Nat.add_assoc, <- e3] at hC
   clear e3 e4 hr1 hx1 hx hm
   go_wp2_with (go_at_call 69; refine hC.mono ?_; rintro e w1 ⟨rfl, hv1⟩)
   have HV3 : Hid (Ov U x0 (K + exWs ((ks.map ET.ex).take (i + 1))) w0 w1) := hv1
   clear hv1 hC
   go_wp2_with fail
   go_roundw
   case rel => exact ⟨i + 1, by go_num, by omega, HV3.out⟩
   case measure => simp [intOf]; omega
  ·have hin : i = n := by omega
   have HV3 : Hid (Ov U x0 (K + M) w0 wr) := by
    have := HV2.out
    rw [hin, hn.out, List.take_of_length_le (by simp), <- hM.out] at this
    exact this
   obtain ⟨b0, r0⟩ := HV3.out.int HF.out HC.out.1
   have f0 := HV3.out.frozen HF.out o
   clear HS HR HL HV2
   go_wp2_with (first
    | (refine JO rfl (.tmp 26) (.tmp 24) rfl g o _ rfl rfl _ r0 f0 ?_; refine zb ?_))
   refine zd ?_
   generalize hw2 : wr.setCell ⟨g, o, none⟩ _ = w2
   have HV4 : Hid (Ov U x0 (K + M) w0 w2) := by
    rw [<- hw2]
    exact HV3.out.set HF.out HC.out.1 (.inr (.inl ⟨_, _, _, rfl, rfl⟩))
   clear hw2
   obtain ⟨s, r3, hs⟩ := HV4.out.str HF.out HC.out.2.1
   have f3 := HV4.out.frozen HF.out (o + 3)
   rw [HN.out] at hs
   clear r0 f0 HV3 r4
   have hs1 : s.size + 1 <= 9223372036854775807 := by omega
   go_wp2_with (first
    | (refine Zg rfl (.tmp 34) (.tmp 32) rfl g (o + 3) _ rfl rfl _ r3 f3 ?_; refine zb ?_))
   all_goals first
    | (exfalso; omega)
    | skip
   refine zd ?_
   go_wp2_with fail
   go_end0
   refine ⟨rfl, ((HV4.out.mono (L := K + (Z + 1 + M)) (by omega)).set HF.out HC.out.2.1 (.inr (.inr ⟨_, _, rfl, rfl, ?_⟩)))⟩
   rw [ByteArray.size_append', HN.out]
   have e1 : (⟨#[33]⟩ : ByteArray).size = 1 := rfl
   omega
theorem qg (U : Nat -> Prop) (x0 B : Nat) (w0 : World) (M : Nat) : ∀ x : ET, SizeOf.sizeOf x < M -> zf2 U x0 B w0 x := by
 induction M with
 | zero => intro x h; omega
 | succ M ih =>
  rintro ⟨op, t, b, nm, a, c, ks⟩ hN
  exact zaq U x0 B w0 op t b nm a c ks fun k hk => ih k (by have := ET.sz (op := op) (t := t) (b := b) (c := c) (nm := nm) (a := a) hk; omega)
def zf1 (U : Nat -> Prop) (x0 B : Nat) (w0 : World) (xs : List ST) : Prop := ∀ a c K w, RowS B w0 a c xs -> (xs = [] \/ ∃ g o, a = some ⟨g, o, none⟩ /\ U g) -> ST.LiesL (U) xs -> Ov U x0 K w0 w -> K + stWs (xs.map ST.st) <= 281474976710656 -> Calls Tryz.prog 35 #[.slice a xs.length c] w fun r w' => r = .returned (.tuple #[]) /\ Ov U x0 (K + stWs (xs.map ST.st)) w0 w'
theorem zcS {w : World} {g o m : Nat} {cs ds : List Value} (h : w.rangeAt g o cs) (hs : ∀ j v, ds[j]? = some v -> cs[m + j]? = some v) : w.rangeAt g (o + m) ds := fun j v hj => by
 have := h (m + j) v (hs j v hj)
 rw [Nat.add_assoc]
 exact this
theorem zfg {w : World} {g o : Nat} {k : Int} {nm : ByteArray} {e : ET} {a1 : Option Addr} {c1 : Nat} {b1 : List ST} {a2 : Option Addr} {c2 : Nat} {b2 : List ST} (h : w.rangeAt g o (ST.mk k nm e a1 c1 b1 a2 c2 b2).cells) : w.rangeAt g (o + 2) e.cells := by
 refine zcS h fun j v hj => ?_
 show (Value.int .i64 k :: .string nm :: (e.cells ++ [.slice a1 b1.length c1, .slice a2 b2.length c2]))[2 + j]? = some v
 have hl : j < e.cells.length := (List.getElem?_eq_some_iff.1 hj).1
 rw [show 2 + j = j + 1 + 1 by omega, List.getElem?_cons_succ, List.getElem?_cons_succ, KA hl]
 exact hj
theorem qf (U : Nat -> Prop) (x0 B : Nat) (w0 : World) (xs : List ST) (hS : ∀ k nm e a1 c1 b1 a2 c2 b2, ST.mk k nm e a1 c1 b1 a2 c2 b2 ∈ xs -> zf1 U x0 B w0 b1 /\ zf1 U x0 B w0 b2) : zf1 U x0 B w0 xs := by
 intro a c K w hrow hat hli hov hK
 obtain ⟨n, hn⟩ : ∃ n, Hid (n = xs.length) := ⟨_, (rfl : xs.length = _)⟩
 have hl := hrow.1
 have hk := hrow.2.1
 obtain ⟨M, hM⟩ : ∃ M, Hid (M = stWs (xs.map ST.st)) := ⟨_, (rfl : stWs (xs.map ST.st) = _)⟩
 rw [<- hn.out] at hl hk ⊢
 rw [<- hM.out] at hK ⊢
 have HS : Hid _ := hS
 have HR : Hid (RowS B w0 a c xs) := hrow
 have HT : Hid (xs = [] \/ ∃ g o, a = some ⟨g, o, none⟩ /\ U g) := hat
 have HL : Hid (ST.LiesL (U) xs) := hli
 have HV : Hid (Ov U x0 K w0 w) := hov
 clear hS hrow hat hli hov
 go_enter Tryz.func35, Tryz.ntmps35
 go_wp2_with fail
 go_loopw [2] (fun j wr => ∃ i : Nat, j = .int .i64 (i : Int) /\ i <= n /\ Ov U x0 (K + stWs ((xs.map ST.st).take i)) w0 wr) (fun j _ => n - (intOf j).toNat)
 case atStart => exact ⟨0, rfl, Vm _, HV.out.mono (by omega)⟩
 case round =>
  obtain ⟨i, rfl, hi, hv⟩ := hrel
  have HV2 : Hid (Ov U x0 (K + stWs ((xs.map ST.st).take i)) w0 wr) := hv
  clear hv HV
  by_cases hc : i < n
  ·obtain ⟨x, hx⟩ : ∃ k, xs[i]? = some k := ⟨xs[i]'(by rw [<- hn.out]; exact hc), by rw [yD]⟩
   obtain ⟨g1, o1, rfl, -, hr1, hx1⟩ := HR.out.at i x hx
   have hm := List.mem_of_getElem? hx
   have hg1 : U g1 := by
    rcases HT.out with q | ⟨g', o', e', q⟩
    ·rw [q] at hm; cases hm
    ·cases e'; exact q
   have e3 := XK (xs.map ST.st) i x.st (by rw [List.getElem?_map, hx]; rfl)
   have e4 := VK (xs.map ST.st) (i + 1)
   rw [<- hM.out] at e4
   have hlx := HL.out.mem x hm
   obtain ⟨k, nm, ⟨op, t, b, enm, ea, ec, eks⟩, a1, c1, b1, a2, c2, b2⟩ := x
   obtain ⟨s1, s2⟩ := HS.out _ _ _ _ _ _ _ _ _ hm
   unfold ST.In at hx1
   obtain ⟨v1, v2, v3, v4⟩ := hx1
   unfold ST.Lies at hlx
   obtain ⟨l0, ⟨l1, l1'⟩, l2, l2'⟩ := hlx
   obtain ⟨q0, q1, q2, q3, q4, q5, q6, q7, q8⟩ := zbd hr1
   have hre := zfg hr1
   obtain ⟨K0, hK0⟩ : ∃ K0, Hid (K0 = K + stWs ((xs.map ST.st).take i)) := ⟨_, (rfl : K + stWs ((xs.map ST.st).take i) = _)⟩
   obtain ⟨W0, hW0⟩ : ∃ W0, W0 = exW (ET.mk op t b enm ea ec eks).ex := ⟨_, rfl⟩
   obtain ⟨W1, hW1⟩ : ∃ W1, W1 = stWs (b1.map ST.st) := ⟨_, rfl⟩
   obtain ⟨W2, hW2⟩ : ∃ W2, W2 = stWs (b2.map ST.st) := ⟨_, rfl⟩
   have e5 : stW (ST.mk k nm (ET.mk op t b enm ea ec eks) a1 c1 b1 a2 c2 b2).st = nm.data.toList.length + 1 + W0 + W1 + W2 := by
    show stW (St.mk k nm.data.toList (ET.mk op t b enm ea ec eks).ex (ST.sts b1) (ST.sts b2)) = _
    rw [stW, ST.sts_eq, ST.sts_eq, hW0, hW1, hW2]
   have HB : Hid (K0 + W0 + W1 + W2 <= K + stWs ((xs.map ST.st).take (i + 1)) /\ K + stWs ((xs.map ST.st).take (i + 1)) <= 281474976710656) := by
    have := hK0.out
    exact ⟨by omega, by omega⟩
   have HV3 : Hid (Ov U x0 K0 w0 wr) := by
    have := HV2.out
    rw [<- hK0.out] at this
    exact this
   have hC0 := qg U x0 B w0 _ (ET.mk op t b enm ea ec eks) (Nat.lt_succ_self _) g1 (o1 + i * 9 + 2) K0 wr v2 l0 hre hg1 HV3.out (by have := HB.out; omega)
   have G1 : Hid (∀ u, Ov U x0 (K0 + W0) w0 u -> Calls Tryz.prog 35 #[.slice a1 b1.length c1] u fun r w' => r = .returned (.tuple #[]) /\ Ov U x0 (K0 + W0 + W1) w0 w') := fun u hu => by
    have := s1 a1 c1 (K0 + W0) u v3 l1 l1' hu (by have := HB.out; omega)
    rw [<- hW1] at this
    exact this
   have G2 : Hid (∀ u, Ov U x0 (K0 + W0 + W1) w0 u -> Calls Tryz.prog 35 #[.slice a2 b2.length c2] u fun r w' => r = .returned (.tuple #[]) /\ Ov U x0 (K0 + W0 + W1 + W2) w0 w') := fun u hu => by
    have := s2 a2 c2 (K0 + W0 + W1) u v4 l2 l2' hu (by have := HB.out; omega)
    rw [<- hW2] at this
    exact this
   rw [<- hW0] at hC0
   have HC : Hid (w0.cell? ⟨g1, o1 + i * 9, none⟩ = some (.int .i64 k) /\ w0.cell? ⟨g1, o1 + i * 9 + 7, none⟩ = some (.slice a1 b1.length c1) /\ w0.cell? ⟨g1, o1 + i * 9 + 8, none⟩ = some (.slice a2 b2.length c2)) := ⟨q0, q7, q8⟩
   have HG : Hid (U g1) := hg1
   clear v1 v2 v3 v4 l0 l1 l1' l2 l2' s1 s2 hx hr1 hre hm e3 e4 e5 hW0 hW1 hW2 q0 q1 q2 q3 q4 q5 q6 q7 q8 hg1 HS HR HT HL HV2 hK0
   go_wp2_with (go_at_call 69; refine hC0.mono ?_; rintro e w1 ⟨rfl, hv1⟩; refine zb ?_)
   refine zd ?_
   have r7 := hv1.slice HG.out HC.out.2.1
   have hC1 := G1.out w1 hv1
   clear hC0 G1
   go_wp2_with (go_at_call 35; refine hC1.mono ?_; rintro e w2 ⟨rfl, hv2⟩; refine zb ?_)
   refine zd ?_
   have r8 := hv2.slice HG.out HC.out.2.2
   have hC2 := G2.out w2 hv2
   clear hC1 G2 r7 hv1
   go_wp2_with (go_at_call 35; refine hC2.mono ?_; rintro e w3 ⟨rfl, hv3⟩; refine zb ?_)
   refine zd ?_
   obtain ⟨z, r0⟩ := hv3.int HG.out HC.out.1
   have f0 := hv3.frozen HG.out (o1 + i * 9)
   clear hC2 r8 hv2
   go_wp2_with (first
    | (refine V8 rfl (.tmp 35) (.tmp 33) rfl g1 (o1 + i * 9) _ rfl rfl _ r0 f0 ?_; refine zb ?_))
   refine zd ?_
   generalize hw4 : w3.setCell ⟨g1, o1 + i * 9, none⟩ _ = w4
   have HV4 : Hid (Ov U x0 (K + stWs ((xs.map ST.st).take (i + 1))) w0 w4) := by
    rw [<- hw4]
    exact (hv3.set HG.out HC.out.1 (.inr (.inl ⟨_, _, _, rfl, rfl⟩))).mono HB.out.1
   clear hw4 hv3 r0 f0
   go_wp2_with fail
   go_roundw
   case rel => exact ⟨i + 1, by go_num, by omega, HV4.out⟩
   case measure => simp [intOf]; omega
  ·have hin : i = n := by omega
   have HV3 : Hid (Ov U x0 (K + M) w0 wr) := by
    have := HV2.out
    rw [hin, hn.out, List.take_of_length_le (by simp), <- hM.out] at this
    exact this
   clear HS HR HL HT HV2
   go_wp2_with fail
   go_end0
   exact ⟨rfl, HV3.out⟩
theorem K6 (U : Nat -> Prop) (x0 B : Nat) (w0 : World) (M : Nat) : ∀ xs : List ST, SizeOf.sizeOf xs < M -> zf1 U x0 B w0 xs := by
 induction M with
 | zero => intro x h; omega
 | succ M ih =>
  intro xs hN
  refine qf U x0 B w0 xs fun k nm e a1 c1 b1 a2 c2 b2 hm => ?_
  have h1 := List.sizeOf_lt_of_mem hm
  simp only [ST.mk.sizeOf_spec] at h1
  exact ⟨ih b1 (by omega), ih b2 (by omega)⟩
structure Apt (A B : Nat) (w w' : World) : Prop where
 os : w'.os = w.os
 tape : w'.tape = w.tape
 output : w'.output = w.output
 size : w.heap.size <= w'.heap.size
 block : ∀ k, k < w.heap.size -> (k < A \/ B <= k) -> w'.heap[k]? = w.heap[k]?
theorem zdG {w : World} {g o : Nat} {v : VT} (h : w.rangeAt g o v.cells) : w.cell? ⟨g, o, none⟩ = some (.string v.nm) := by
 have := h 0 _ rfl
 simpa using this
theorem Vf {α : Type} (f : α -> Nat) : ∀ (l : List α) (i : Nat) (x : α), l[i]? = some x -> ((l.take (i + 1)).map f).sum = ((l.take i).map f).sum + f x
 | [], i, x, h => by simp at h
 | e :: r, 0, x, h => by
  simp at h
  subst h
  simp
 | e :: r, i + 1, x, h => by
  have := Vf f r i x (by simpa using h)
  simp only [Y8, Yi, List.sum_cons]
  omega
theorem Ju {α : Type} (f : α -> Nat) : ∀ (l : List α) (i : Nat), ((l.take i).map f).sum <= (l.map f).sum
 | [], i => by simp
 | e :: r, 0 => by simp
 | e :: r, i + 1 => by
  have := Ju f r i
  simp only [Y8, Yi, List.sum_cons]
  omega
theorem Kr {α : Type} (f : α -> Nat) (h : ∀ x, 1 <= f x) : ∀ (l : List α), l.length <= (l.map f).sum
 | [] => by simp
 | e :: r => by
  have := Kr f h r
  have := h e
  simp only [Yi, List.sum_cons, VX]
  omega
def Uo (A B X : Nat) (w : World) (k : Nat) : Prop := (A <= k /\ k < B \/ k = X) /\ Soft w k
theorem Ki (A B : Nat) (vs : List VT) (a1 : Option Addr) (c1 : Nat) (a2 : Option Addr) (n2 c2 : Nat) (ts : List TT) (a3 : Option Addr) (c3 : Nat) (w : World) (i1 : RowV B w a1 c1 vs) (i3 : RowT B w a3 c3 ts)
  (k1 : vs = [] \/ ∃ g o, a1 = some ⟨g, o, none⟩ /\ A <= g /\ Soft w g) (k3 : ts = [] \/ ∃ g o, a3 = some ⟨g, o, none⟩ /\ A <= g /\ Soft w g) (k4 : ∀ t ∈ ts, t.Lies (fun k => A <= k /\ Soft w k))
  (hT : (c2 = 0 /\ n2 = 0) \/ ∃ g cs, a2 = some ⟨g, 0, none⟩ /\ A <= g /\ g < B /\ At 9 w g cs /\ cs.length = c2 /\ c2 <= 9223372036854775807 /\ n2 <= c2 /\ TxW 1073741824 cs)
  (hBw : B <= w.heap.size) (hAw : A <= w.heap.size) (hW : ((ts.map TT.th).map thW).sum <= 536870912) :
  Calls Tryz.prog 11 #[.agg [.slice a1 vs.length c1, .slice a2 n2 c2, .slice a3 ts.length c3].toArray] w fun r w' => r = .returned (.tuple #[]) /\ Apt A B w w' := by
 obtain ⟨n1, hn1⟩ : ∃ n, Hid (n = vs.length) := ⟨_, (rfl : vs.length = _)⟩
 obtain ⟨n3, hn3⟩ : ∃ n, Hid (n = ts.length) := ⟨_, (rfl : ts.length = _)⟩
 have l1 := i1.1
 have l1' := i1.2.1
 have l3 := i3.1
 have l3' := i3.2.1
 rw [<- hn1.out] at l1 l1'
 rw [<- hn3.out] at l3 l3'
 rw [<- hn1.out, <- hn3.out]
 have HI : Hid (RowV B w a1 c1 vs /\ RowT B w a3 c3 ts) := ⟨i1, i3⟩
 have HK : Hid ((vs = [] \/ ∃ g o, a1 = some ⟨g, o, none⟩ /\ A <= g /\ Soft w g) /\ (ts = [] \/ ∃ g o, a3 = some ⟨g, o, none⟩ /\ A <= g /\ Soft w g) /\ ∀ t ∈ ts, t.Lies (fun k => A <= k /\ Soft w k)) := ⟨k1, k3, k4⟩
 have HT0 : Hid _ := hT
 have HW : Hid (((ts.map TT.th).map thW).sum <= 536870912) := hW
 clear i1 i3 k1 k3 k4 hT hW
 go_enter Tryz.func11, Tryz.ntmps11
 go_wp2_with (first
  | (refine yF rfl rfl [.slice a1 n1 c1, .slice a2 n2 c2, .slice a3 n3 c3] rfl ?_; intro w1 hA1 hb1; refine zb ?_))
 refine zd ?_
 have hsz := hb1.size
 obtain ⟨U, hU⟩ : ∃ U, U = Uo A B w.heap.size w1 := ⟨_, rfl⟩
 have hkp : ∀ k, k < B -> w1.heap[k]? = w.heap[k]? := fun k hk => hb1.block k (by omega)
 have hup : ∀ k, (A <= k /\ Soft w k) -> k < B -> U k := fun k hk hl => by rw [hU]; exact ⟨.inl ⟨hk.1, hl⟩, hk.2.keep (hkp k hl)⟩
 have hts : ∀ t ∈ ts, t.Lies U /\ t.In B w := fun t ht => by
  obtain ⟨_, _, q | ⟨g, o, ha, hg, hr⟩⟩ := HI.out.2
  ·rw [q] at ht; cases ht
  ·obtain ⟨i, hi⟩ := List.mem_iff_getElem?.1 ht
   have h1 := (hr i t hi).2
   have h2 := HK.out.2.2 t ht
   exact ⟨⟨Ye h2.1 h1.1.bound hup, Ye h2.2.1 h1.2.bound hup, h1.2.lies h2.2.2 hup⟩, h1⟩
 have hb3 : ts = [] \/ ∃ g o, a3 = some ⟨g, o, none⟩ /\ g < B := by
  obtain ⟨_, _, q | ⟨g, o, ha, hg, hr⟩⟩ := HI.out.2
  ·exact .inl q
  ·exact .inr ⟨g, o, ha, hg⟩
 have HU : Hid (((vs = [] \/ ∃ g o, a1 = some ⟨g, o, none⟩ /\ U g) /\ RowV B w1 a1 c1 vs) /\ (ts = [] \/ ∃ g o, a3 = some ⟨g, o, none⟩ /\ U g) /\ (∀ t ∈ ts, t.Lies U) /\ RowT B w1 a3 c3 ts) :=
  ⟨⟨Ye HK.out.1 HI.out.1.bound hup, HI.out.1.stay (S := fun k => A <= k /\ Soft w k) HK.out.1 (zj _) fun k _ hl => hkp k hl⟩, Ye HK.out.2.1 hb3 hup, fun t ht => (hts t ht).1, RowT.stay (S := fun k => A <= k /\ Soft w k) HI.out.2 HK.out.2.1 HK.out.2.2 (zj _) fun k _ hl => hkp k hl⟩
 have HX : Hid (U w.heap.size) := by rw [hU]; exact ⟨.inr rfl, _, _, hA1, by decide⟩
 have HC : Hid (w1.cell? ⟨w.heap.size, 0, none⟩ = some (.slice a1 n1 c1) /\ w1.cell? ⟨w.heap.size, 1, none⟩ = some (.slice a2 n2 c2) /\ w1.cell? ⟨w.heap.size, 2, none⟩ = some (.slice a3 n3 c3)) := ZK hA1
 have HB : Hid (Below w.heap.size w w1) := hb1
 have HT : Hid (∀ u, Ov U w.heap.size (4 * n1) w1 u -> Calls Tryz.prog 34 #[.slice a2 n2 c2] u fun r w' => r = .returned (.tuple #[]) /\ ∃ x0, (A <= x0 /\ x0 < B \/ w.heap.size <= x0) /\ Ov U x0 (4 * n1) w1 w') := fun u hu => by
  rcases HT0.out with ⟨rfl, rfl⟩ | ⟨g, cs, rfl, h1, h2, h3, h4, h5, h6, h7⟩
  ·refine (K4 a2 u).mono ?_
   rintro r w' ⟨rfl, rfl⟩
   exact ⟨rfl, w.heap.size, .inr (zj _), hu⟩
  ·have h31 : At 9 w1 g cs := (hkp g h2).trans h3
   have hnU : ¬ U g := fun q => by
    rw [hU] at q
    obtain ⟨-, t, ds, hA, ht⟩ := q
    exact hA.ne h31 ht rfl
   have h3u : At 9 u g cs := (hu.stand g hnU (by omega) (by omega)).trans h31
   refine (K5 g n2 c2 cs h4 h5 h6 h7 u h3u).mono ?_
   rintro r w' ⟨rfl, hb⟩
   exact ⟨rfl, g, .inl ⟨h1, h2⟩, hu.but HX.out hnU hb⟩
 have hUs : ∀ g, U g -> Soft w1 g := fun g h => by rw [hU] at h; exact h.2
 have HUs : Hid (∀ g, U g -> (A <= g /\ g < B \/ g = w.heap.size) /\ Soft w1 g) := fun g h => by rw [hU] at h; exact h
 clear hA1 hb1 HI HK HT0 hkp hup hts hb3 hU hUs
 go_wp2_with fail
 go_loopw [2] (fun j wr => ∃ i : Nat, j = .int .i64 (i : Int) /\ i <= n1 /\ Hid (Ov U w.heap.size (4 * i) w1 wr)) (fun j _ => n1 - (intOf j).toNat)
 case atStart => exact ⟨0, rfl, Vm _, Ov.refl _ _ _ (fun g h => (HUs.out g h).2)⟩
 case round =>
  obtain ⟨i, rfl, hi, hv⟩ := hrel
  have r0 := hv.out.slice HX.out HC.out.1
  by_cases hc : i < n1
  ·obtain ⟨x, hx⟩ : ∃ k, vs[i]? = some k := ⟨vs[i]'(by rw [<- hn1.out]; exact hc), by rw [yD]⟩
   obtain ⟨g1, o1, rfl, -, hr1, -⟩ := HU.out.1.2.at i x hx
   have hm := List.mem_of_getElem? hx
   have hg1 : U g1 := by
    rcases HU.out.1.1 with q | ⟨g', o', e', q⟩
    ·rw [q] at hm; cases hm
    ·cases e'; exact q
   have hz := zdG hr1
   obtain ⟨s, r1, hs⟩ := hv.out.str hg1 hz
   have f1 := hv.out.frozen hg1 (o1 + i * 3)
   have HZ : Hid (w1.cell? ⟨g1, o1 + i * 3, none⟩ = some (.string x.nm) /\ U g1) := ⟨hz, hg1⟩
   clear hx hm hr1 hz hg1 HU HT HW
   go_wp2_with (first
    | (refine Zg rfl (.tmp 16) (.const (.string ⟨#[111, 118, 101, 114]⟩)) rfl g1 (o1 + i * 3) ⟨#[111, 118, 101, 114]⟩ (by first | rfl | (simp; done)) rfl _ r1 f1 ?_; refine zb ?_))
   refine zd ?_
   generalize hw4 : wr.setCell ⟨g1, o1 + i * 3, none⟩ _ = w4
   have HV4 : Hid (Ov U w.heap.size (4 * (i + 1)) w1 w4) := by
    rw [<- hw4]
    refine (hv.out.mono (L := 4 * (i + 1)) (by omega)).set HZ.out.2 HZ.out.1 (.inr (.inr ⟨_, _, rfl, rfl, ?_⟩))
    have e1 : (⟨#[111, 118, 101, 114]⟩ : ByteArray).size = 4 := rfl
    omega
   clear hw4 hv r0 r1 f1
   go_wp2_with fail
   go_roundw
   case rel => exact ⟨i + 1, by go_num, by omega, HV4⟩
   case measure => simp [intOf]; omega
  ·have hin : i = n1 := by omega
   subst hin
   have r1 := hv.out.slice HX.out HC.out.2.1
   have hC := HT.out wr hv.out
   clear HT
   go_wp2_with (go_at_call 34; refine hC.mono ?_; rintro e w2 ⟨rfl, x0, hx0, hv2⟩; refine zb ?_)
   refine zd ?_
   have HV2 : Hid (Ov U x0 (4 * i) w1 w2) := hv2
   obtain ⟨K2, hK2⟩ : ∃ K2, K2 = 4 * i := ⟨_, rfl⟩
   rw [<- hK2] at HV2
   have hK2' : K2 <= 5242880 := by omega
   clear hC r0 r1 hv hv2 hK2
   go_wp2_with fail
   go_loopw [3] (fun j wr => ∃ i : Nat, j = .int .i64 (i : Int) /\ i <= n3 /\ Hid (Ov U x0 (K2 + 4 * (((ts.map TT.th).take i).map thW).sum) w1 wr)) (fun j _ => n3 - (intOf j).toNat)
   case atStart => exact ⟨0, rfl, Vm _, HV2.out⟩
   case round =>
    clear HV2
    obtain ⟨i3, rfl, hi3, hv⟩ := hrel
    have r2 := hv.out.slice HX.out HC.out.2.2
    by_cases hc3 : i3 < n3
    ·obtain ⟨x, hx⟩ : ∃ k, ts[i3]? = some k := ⟨ts[i3]'(by rw [<- hn3.out]; exact hc3), by rw [yD]⟩
     obtain ⟨g3, o3, rfl, -, hr3, hx3⟩ := HU.out.2.2.2.at i3 x hx
     have hm := List.mem_of_getElem? hx
     have hg3 : U g3 := by
      rcases HU.out.2.1 with q | ⟨g', o', e', q⟩
      ·rw [q] at hm; cases hm
      ·cases e'; exact q
     have hl3 := HU.out.2.2.1 x hm
     have e3 := Vf thW (ts.map TT.th) i3 x.th (by rw [List.getElem?_map, hx]; rfl)
     have e4 := Ju thW (ts.map TT.th) (i3 + 1)
     obtain ⟨nm, b1, d1, ls, b2, d2, bs⟩ := x
     obtain ⟨m, hm1⟩ : ∃ n, Hid (n = ls.length) := ⟨_, (rfl : ls.length = _)⟩
     obtain ⟨W, hWb⟩ : ∃ W, W = stWs (bs.map ST.st) := ⟨_, rfl⟩
     obtain ⟨K3, hK3⟩ : ∃ K3, K3 = K2 + 4 * (((ts.map TT.th).take i3).map thW).sum := ⟨_, rfl⟩
     have e5 : thW (TT.th ⟨nm, b1, d1, ls, b2, d2, bs⟩) = nm.data.toList.length + 1 + ((ls.map VT.vr).map vrW).sum + stWs (bs.map ST.st) := rfl
     have e6 := Kr vrW (fun v => by unfold vrW; omega) (ls.map VT.vr)
     rw [Ze, <- hm1.out] at e6
     have HE : Hid (K3 + W + 4 * m + 4 <= K2 + 4 * (((ts.map TT.th).take (i3 + 1)).map thW).sum /\ K3 + W + 4 * m + 4 <= 281474976710656) := by
      have := HW.out
      exact ⟨by omega, by omega⟩
     rw [<- hK3] at hv
     have hml := hx3.1.1
     have hmk := hx3.1.2.1
     rw [<- hm1.out] at hml hmk
     simp only [TT.cells] at hr3
     rw [<- hm1.out] at hr3
     obtain ⟨q0, q1, q2⟩ := zba hr3
     have rb := hv.out.slice hg3 q2
     have hC := K6 U x0 B w1 _ bs (Nat.lt_succ_self _) b2 d2 K3 wr hx3.2 hl3.2.1 hl3.2.2 hv.out (by have := HE.out; omega)
     rw [<- hWb] at hC
     have HQ : Hid (w1.cell? ⟨g3, o3 + i3 * 3, none⟩ = some (.string nm) /\ w1.cell? ⟨g3, o3 + i3 * 3 + 1, none⟩ = some (.slice b1 m d1) /\ U g3) := ⟨q0, q1, hg3⟩
     have HD : Hid ((ls = [] \/ ∃ g o, b1 = some ⟨g, o, none⟩ /\ U g) /\ RowV B w1 b1 d1 ls) := ⟨hl3.1, hx3.1⟩
     clear hx hm hr3 hx3 hl3 e3 e4 e5 e6 hWb hK3 q0 q1 q2 hg3
     go_wp2_with (go_at_call 35; refine hC.mono ?_; rintro e w3 ⟨rfl, hv3⟩; refine zb ?_)
     refine zd ?_
     have HV3 : Hid (Ov U x0 (K3 + W) w1 w3) := hv3
     clear hC rb r2 hv hv3
     go_wp2_with fail
     go_loopw [4] (fun j wq => ∃ q : Nat, j = .int .i64 (q : Int) /\ q <= m /\ Hid (Ov U x0 (K3 + W + 4 * q) w1 wq)) (fun j _ => m - (intOf j).toNat)
     case atStart => exact ⟨0, rfl, Vm _, HV3.out⟩
     case round =>
      clear HV3
      obtain ⟨q, rfl, hq, hv⟩ := hrel
      have r2 := hv.out.slice HX.out HC.out.2.2
      have rl := hv.out.slice HQ.out.2.2 HQ.out.2.1
      by_cases hcq : q < m
      ·obtain ⟨x, hx⟩ : ∃ k, ls[q]? = some k := ⟨ls[q]'(by rw [<- hm1.out]; exact hcq), by rw [yD]⟩
       obtain ⟨g4, o4, rfl, -, hr4, -⟩ := HD.out.2.at q x hx
       have hm := List.mem_of_getElem? hx
       have hg4 : U g4 := by
        rcases HD.out.1 with q | ⟨g', o', e', q⟩
        ·rw [q] at hm; cases hm
        ·cases e'; exact q
       have hz := zdG hr4
       obtain ⟨s, r1, hs⟩ := hv.out.str hg4 hz
       have f1 := hv.out.frozen hg4 (o4 + q * 3)
       have HZ : Hid (w1.cell? ⟨g4, o4 + q * 3, none⟩ = some (.string x.nm) /\ U g4) := ⟨hz, hg4⟩
       clear hx hm hr4 hz hg4 HU HW HD
       go_wp2_with (first
        | (refine Zg rfl (.tmp 53) (.const (.string ⟨#[111, 118, 101, 114]⟩)) rfl g4 (o4 + q * 3) ⟨#[111, 118, 101, 114]⟩ (by first | rfl | (simp; done)) rfl _ r1 f1 ?_; refine zb ?_))
       refine zd ?_
       generalize hw4 : wr.setCell ⟨g4, o4 + q * 3, none⟩ _ = w4
       have HV4 : Hid (Ov U x0 (K3 + W + 4 * (q + 1)) w1 w4) := by
        rw [<- hw4]
        refine (hv.out.mono (L := K3 + W + 4 * (q + 1)) (by omega)).set HZ.out.2 HZ.out.1 (.inr (.inr ⟨_, _, rfl, rfl, ?_⟩))
        have e1 : (⟨#[111, 118, 101, 114]⟩ : ByteArray).size = 4 := rfl
        omega
       clear hw4 hv r2 rl r1 f1
       go_wp2_with fail
       go_roundw
       case rel => exact ⟨q + 1, by go_num, by omega, HV4⟩
       case measure => simp [intOf]; omega
      ·have hqm : q = m := by omega
       subst hqm
       obtain ⟨s, r1, hs⟩ := hv.out.str HQ.out.2.2 HQ.out.1
       have f1 := hv.out.frozen HQ.out.2.2 (o3 + i3 * 3)
       clear HD HU
       go_wp2_with (first
        | (refine Zg rfl (.tmp 58) (.const (.string ⟨#[111, 118, 101, 114]⟩)) rfl g3 (o3 + i3 * 3) ⟨#[111, 118, 101, 114]⟩ (by first | rfl | (simp; done)) rfl _ r1 f1 ?_; refine zb ?_))
       refine zd ?_
       generalize hw4 : wr.setCell ⟨g3, o3 + i3 * 3, none⟩ _ = w4
       have HV4 : Hid (Ov U x0 (K2 + 4 * (((ts.map TT.th).take (i3 + 1)).map thW).sum) w1 w4) := by
        rw [<- hw4]
        refine ((hv.out.mono (L := K3 + W + 4 * q + 4) (by omega)).set HQ.out.2.2 HQ.out.1 (.inr (.inr ⟨_, _, rfl, rfl, ?_⟩))).mono HE.out.1
        have e1 : (⟨#[111, 118, 101, 114]⟩ : ByteArray).size = 4 := rfl
        omega
       clear hw4 hv r2 rl r1 f1
       go_wp2_with fail
       go_roundw
       case rel => exact ⟨i3 + 1, by go_num, by omega, HV4⟩
       case measure => simp [intOf]; omega
    ·clear HU HW
     go_wp2_with fail
     go_end0
     have hb := HB.out
     have hv := hv.out
     refine ⟨rfl, hv.os.trans hb.os, hv.tape.trans hb.tape, hv.output.trans hb.output, zQ hb.size hv.size, fun k hk hAB => ?_⟩
     rw [hv.stand k (fun q => by rcases (HUs.out k q).1 with q | q <;> omega) (by omega) (by have := hb.size; omega)]
     exact hb.block k hk
theorem RowN.cell {B c : Nat} {w : World} {g : Nat} {ks : List ByteArray} (h : RowN B w (some ⟨g, 0, none⟩) c ks) (hk : ks ≠ []) : g < B /\ ∀ i v, ks[i]? = some v -> w.cell? ⟨g, i, none⟩ = some (.string v) := by
 obtain ⟨_, _, q | ⟨g', o, ha, hg, hr⟩⟩ := h
 ·exact absurd q hk
 ·cases ha
  exact ⟨hg, fun i v hv => by have := hr i v hv; rwa [Nat.zero_add] at this⟩
theorem zen {α : Type} (f : α -> Nat) : ∀ (l : List α) (x : α), x ∈ l -> f x <= (l.map f).sum
 | [], x, h => by cases h
 | e :: r, x, h => by
  simp only [Yi, List.sum_cons]
  rcases List.mem_cons.1 h with rfl | h
  ·omega
  ·have := zen f r x h
   omega
theorem JT (A B : Nat) (p : PT) (w : World) (hin : p.In B w) (hsf : p.Sf w) (hne : p.mutexes = [] -> p.c2 = 0) (hl : p.Lies (fun k => A <= k)) (hBw : B <= w.heap.size) (hAw : A <= w.heap.size) (hW : pgW p.pg <= 536870912) :
  Calls Tryz.prog 11 #[.agg p.cells.toArray] w fun r w' => r = .returned (.tuple #[]) /\ Apt A B w w' := by
 have hw' : ((p.shared.map VT.vr).map vrW).sum + ((p.mutexes.map fun s : ByteArray => s.data.toList).map fun m => m.length + 1).sum + ((p.threads.map TT.th).map thW).sum <= 536870912 := hW
 refine Ki A B p.shared p.a1 p.c1 p.a2 p.mutexes.length p.c2 p.threads p.a3 p.c3 w hin.1 hin.2.2 (Yf hl.1 hsf.1) (Yf hl.2.2.1 hsf.2.2.1) (fun t ht => ?_) ?_ hBw hAw (by omega)
 ·have h1 := hl.2.2.2 t ht
  have h2 := hsf.2.2.2 t ht
  exact ⟨Yf h1.1 h2.1, Yf h1.2.1 h2.2.1, h1.2.2.and h2.2.2⟩
 ·by_cases hk : p.mutexes = []
  ·exact .inl ⟨hne hk, by rw [hk]; rfl⟩
  ·rcases hsf.2.1 with ⟨q, -⟩ | ⟨g, cs, ha, hA, hlc, hr, hc63⟩
   ·exact absurd q hk
   ·have hN := hin.2.1
    have hlg := hl.2.1
    rw [ha] at hN hlg
    obtain ⟨hgB, hcell⟩ := hN.cell hk
    have hAg : A <= g := by
     rcases hlg with q | ⟨g', o', e', q⟩
     ·exact absurd q hk
     ·cases e'; exact q
    refine .inr ⟨g, cs, ha, hAg, hgB, hA, hlc, hc63, hin.2.1.2.1, fun j u hj => ?_⟩
    by_cases hjl : j < p.mutexes.length
    ·have h1 := hcell j (p.mutexes[j]'hjl) (by rw [yD])
     rw [hA.cell, hj] at h1
     refine ⟨_, yZ h1, ?_⟩
     have h2 := zen (fun m : List UInt8 => m.length + 1) (p.mutexes.map fun s : ByteArray => s.data.toList) (p.mutexes[j]'hjl).data.toList (List.mem_map_of_mem (f := fun s : ByteArray => s.data.toList) (List.getElem_mem hjl))
     have h3 : (p.mutexes[j]'hjl).size = (p.mutexes[j]'hjl).data.toList.length := by rw [Array.length_toList]; rfl
     omega
    ·exact ⟨_, hr j u hj (by omega), by decide⟩
