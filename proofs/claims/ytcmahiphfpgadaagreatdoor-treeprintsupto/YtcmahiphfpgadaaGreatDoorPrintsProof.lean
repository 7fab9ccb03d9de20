/- Proved: which text a program, an expression and a value have, or that they have none, is told as the document says, and what is handed in stays, where the arguments hold at most 1048576 values and letters; the listed variables of the library lie as the program's text lays them (the card ties them). -/
import Derived.Test.YtcmahiphfpgadaaGreatDoorJ27
import Derived.Test.YtcmahiphfpgadaaGreatDoorJ14
import Derived.Test.YtcmahiphfpgadaaGreatDoorJ18
import Derived.Test.YtcmahiphfpgadaaGreatDoorCards
import Derived.Test.YtcmahiphfpgadaaGreatDoorTie
import Derived.WalkKit
import Derived.ProofKit
import Derived.OpenShut
import Derived.ShutString
import Derived.ChangeOld
import Derived.Below
import Derived.LaidMore
import Derived.SevenTiedAt
import Derived.Deep.DeepHandedRow
namespace Go.Proofs.YtcmahiphfpgadaaGreatDoor.treePrints
open Go.ChangeShapes Go.WideShapes Go.ChangeAt Go.RowKit
set_option linter.unusedVariables false

theorem own : ownKnob Tryz.prog.godebug = none := by kernel_rfl
theorem laidOut : laidOutB Tryz.prog = true := by kernel_rfl

theorem walk (p : PT) (e : ET) (t b : Nat) (w : World) (hp : p.In w.heap.size w) (he : e.In w.heap.size w) (ht : t < 256) (hb : b < 18446744073709551616) (wp : pgW p.pg ≤ 1048576) (we : exW e.ex ≤ 1048576) (np : p.NilOk) (kp : pgOk p.pg) (ke : exOk e.ex) (hT : Tab w) (h4 : gB ≤ w.heap.size) :
  Calls Tryz.prog 3 #[.agg p.cells.toArray, .agg e.cells.toArray, .agg [Value.int .u8 (t : Int), .int .u64 (b : Int)].toArray] w fun e w' => e = .returned (.bool true) ∧ Below w.heap.size w w' := by
 cases e with
 | mk op t1 b1 nm a c ks => exact prints_at p (.mk op t1 b1 nm a c ks) t b _ _ _ _ _ _ _ _ _ _ rfl rfl rfl w hp he ht hb wp we np kp (pgT_len p.pg kp wp) (by have := exT_len _ ke; omega) hT h4

set_option maxRecDepth 100000 in
theorem open_arg {H : Type} {enc : TypeId × Value → H} {w : World} {sp : Nat → Bool} {held : Bool} {b0 : Nat} {v : Value} {d : DataW H} {ps : List MemPlace} (hval : Value.okWide Tryz.prog w .any b0 26 v) (hd : DataW.Trod enc Tryz.prog w 0 sp held 26 v d ps) (hN : Rows.uptoBulk d ≤ 1048576) :
  ∃ p : PT, v = .agg p.cells.toArray ∧ p.In w.heap.size w ∧ p.NilOk ∧ pgW p.pg ≤ 1048576 ∧ pgOk p.pg := by
 obtain ⟨cs, rfl, hsz⟩ := okWide_struct Tryz.underlying26 hval
 obtain ⟨fuel, hf⟩ := hd
 obtain ⟨p, ⟨h1, h2, h5⟩, h4, h3⟩ := open_pg2 fuel _ _ hf hN
 refine ⟨p, ?_, h2, h3, h4, h5⟩
 have h1 : cs.toList = p.cells := h1
 rw [← h1]

set_option maxRecDepth 100000 in
theorem open_arg_e {H : Type} {enc : TypeId × Value → H} {w : World} {sp : Nat → Bool} {held : Bool} {b0 : Nat} {v : Value} {d : DataW H} {ps : List MemPlace} (hval : Value.okWide Tryz.prog w .any b0 34 v) (hd : DataW.Trod enc Tryz.prog w 0 sp held 34 v d ps) (hN : Rows.uptoBulk d ≤ 1048576) :
  ∃ e : ET, v = .agg e.cells.toArray ∧ e.In w.heap.size w ∧ exW e.ex ≤ 1048576 ∧ exOk e.ex := by
 obtain ⟨cs, rfl, hsz⟩ := okWide_struct Tryz.underlying34 hval
 obtain ⟨fuel, hf⟩ := hd
 obtain ⟨e, ⟨h1, h2, h5⟩, h4⟩ := open_expr (fuel + 1) fuel (Nat.lt_succ_self _) _ _ hf hN
 refine ⟨e, ?_, h2, Nat.le_trans h4 hN, h5⟩
 have h1 : cs.toList = e.cells := h1
 rw [← h1]

set_option maxRecDepth 100000 in
theorem open_arg_v {H : Type} {enc : TypeId × Value → H} {w : World} {sp : Nat → Bool} {held : Bool} {b0 : Nat} {v : Value} {d : DataW H} {ps : List MemPlace} (hval : Value.okWide Tryz.prog w .any b0 31 v) (hd : DataW.Trod enc Tryz.prog w 0 sp held 31 v d ps) :
  ∃ t b : Nat, v = .agg [Value.int .u8 (t : Int), .int .u64 (b : Int)].toArray ∧ t < 256 ∧ b < 18446744073709551616 := by
 obtain ⟨cs, rfl, hsz⟩ := okWide_struct Tryz.underlying31 hval
 obtain ⟨fuel, hf⟩ := hd
 obtain ⟨t, b, h1, h2, h3⟩ := open_val fuel _ _ hf
 refine ⟨t, b, ?_, h2, h3⟩
 have h1 : cs.toList = _ := h1
 rw [← h1]

set_option maxRecDepth 100000 in
theorem contract (H : Type) (enc : TypeId × Value → H) (W : World) (base : Nat) (args : Array Value) (ds gs : List (DataW H)) (before : List MemPlace)
  (hval : ∀ (j : Nat) t v, Tryz.f3.params[j]? = some t → args[j]? = some v → Value.okWide Tryz.prog W .any base t v)
  (hW : DataW.Whole enc Tryz.prog Tryz.f3.params.toList Rows.treePrintsSpec.vars false W args.toList ds gs before) (hk : Rows.uptoSmall H (ds ++ gs) = true) (hL : laidMetH Tryz.prog laidL W) :
  Calls Tryz.prog 3 args W fun e W' => ∃ v, e = .returned v ∧ Rows.treePrintsSpec.post enc Tryz.prog Tryz.f3 false true false false W args v W' := by
 have hW' := hW
 obtain ⟨p, q, hA0, hV, rfl, hfz, hnd⟩ := hW
 have hA : DataW.TrodAll enc Tryz.prog W 0 (fun _ => true) true Tryz.f3.params.toList args.toList ds p := hA0
 rw [Tryz.params3] at hA hval
 obtain ⟨v0, vs0, d0, ds0, p0, q0, hargs, rfl, rfl, h0, r0⟩ := trodAll_cons hA
 obtain ⟨v1, vs1, d1, ds1, p1, q1, rfl, rfl, rfl, h1, r1⟩ := trodAll_cons r0
 obtain ⟨v2, vs2, d2, ds2, p2, q2, rfl, rfl, rfl, h2, r2⟩ := trodAll_cons r1
 obtain ⟨rfl, rfl, rfl⟩ := trodAll_nil r2
 obtain rfl : args = #[v0, v1, v2] := by cases args; simp_all
 obtain ⟨rfl, rfl⟩ := trodVars_none hV
 have hbk : Rows.uptoBulkAll ([d0, d1, d2] ++ []) ≤ 1048576 := of_decide_eq_true hk
 simp only [List.append_nil, Rows.uptoBulkAll] at hbk
 have k0 := h0
 have k1 := h1
 have k2 := h2
 have lt0 : ∀ x ∈ p0, x.block < W.heap.size := by obtain ⟨m, hm⟩ := k0; exact DataW.trod_lt m _ _ _ hm
 have lt1 : ∀ x ∈ p1, x.block < W.heap.size := by obtain ⟨m, hm⟩ := k1; exact DataW.trod_lt m _ _ _ hm
 have lt2 : ∀ x ∈ p2, x.block < W.heap.size := by obtain ⟨m, hm⟩ := k2; exact DataW.trod_lt m _ _ _ hm
 obtain ⟨pa, rfl, a2, a3, a4, a5⟩ := open_arg (hval 0 26 v0 rfl rfl) h0 (by omega)
 obtain ⟨pe, rfl, c2, c4, c5⟩ := open_arg_e (hval 1 34 v1 rfl rfl) h1 (by omega)
 obtain ⟨vt, vb, rfl, d2, d3⟩ := open_arg_v (hval 2 31 v2 rfl rfl) h2
 clear hA0 hval
 refine (walk pa pe vt vb W a2 c2 d2 d3 a4 c4 a3 a5 c5 (tab_of_laid hL) (size_of_laid hL)).mono fun e W' ⟨he, bel⟩ => ?_
 subst he
 exact ⟨_, rfl, _, _, _, [], _, [], hW', trodAll_mk1 (shut_bool Tryz.underlying4 _), (trodAll_cons_mk (Below.trod laidOut (by kernel_rfl) (of_decide_eq_true (by kernel_rfl)) k0 bel lt0) (trodAll_cons_mk (Below.trod laidOut (by kernel_rfl) (of_decide_eq_true (by kernel_rfl)) k1 bel lt1) (trodAll_cons_mk (Below.trod laidOut (by kernel_rfl) (of_decide_eq_true (by kernel_rfl)) k2 bel lt2) trodAll_mk0))), rfl, bel.frame _, fun h => by cases h⟩

def zeroP : Value := .agg #[.slice none 0 0, .slice none 0 0, .slice none 0 0]
def zeroE : Value := .agg #[.int .u8 0, .int .u8 0, .int .u64 0, .string ⟨#[]⟩, .slice none 0 0]

def zeroV : Value := .agg #[.int .u8 0, .int .u64 0]

theorem reads (os : Os) {H : Type} (enc : TypeId × Value → H) : ∃ places, DataW.whole enc Tryz.prog ((World.doorLaid Tryz.prog 400 os).forCall (fun _ _ => 0) ⟨#[], #[zeroP, zeroE, zeroV], []⟩).memory Tryz.f3.params.toList Rows.treePrintsSpec.vars false #[zeroP, zeroE, zeroV].toList 8 = some ([.agg [.nil, .nil, .nil], .agg [.lit (.int .u8 0), .agg [.lit (.int .u8 0), .lit (.int .u64 0)], .lit (.string []), .nil], .agg [.lit (.int .u8 0), .lit (.int .u64 0)]], [], places) :=
 ⟨[], by kernel_rfl⟩

set_option maxRecDepth 100000 in
theorem lifted (os : Os) (started : os.Started) (H : Type) (enc : TypeId × Value → H) (F : Stop.Interp) :
  ReturnsInHanded {} Tryz.checked os 3 .any ((Rows.OpenSpec.upto Rows.treePrintsSpec).preRow enc Tryz.prog Tryz.f3 Rows.treePrintsUptoRow.domain false Rows.treePrintsUptoRow.laid) (((Rows.OpenSpec.upto Rows.treePrintsSpec).at F).post enc Tryz.prog Tryz.f3 false true false false) := by
 obtain ⟨places, hx⟩ := reads os enc
 refine returnsInHanded_of_row (C := Tryz.checked) (s := Rows.OpenSpec.upto Rows.treePrintsSpec) own started (by kernel_rfl) Tryz.func3
  (witness_row_at (enc := enc) (C := Tryz.checked) false (World.doorLaid Tryz.prog 400 os) #[zeroP, zeroE, zeroV] rfl (by kernel_rfl) (by kernel_rfl) (by kernel_rfl)
   (OpenSpec.preRow_of_cond 8 hx (by kernel_rfl) (fun k hk => by cases hk; kernel_rfl) (by kernel_rfl) (door_met os _))) ?_
 intro W base args ds gs before hval hW _ hcond _ hL _ _
 exact contract H enc W base args ds gs before hval hW (hcond _ rfl) hL

theorem saidUpto : Rows.TreePrintsUptoSaid :=
 OpenClaim.holds_of_cond 3 Tryz.f3 rfl rfl rfl rfl rfl rfl rfl ⟨rfl, rfl, rfl, rfl, rfl⟩ rfl rfl rfl rfl rfl (by kernel_rfl) Tryz.func3 (by kernel_rfl)
  (of_decide_eq_true (by kernel_rfl)) (by unfold Func.isWrapper; first | (rw [if_pos (by decide +kernel)]; kernel_rfl) | (rw [if_neg (by decide +kernel)]; exact ⟨rfl, rfl⟩))
  (fun os started H enc _ F => by rw [OpenClaim.pre_eq_preRow]; exact lifted os started H enc F)

theorem plain (f : FuncId) (fn : Func) (hf : Tryz.pinned.checked.prog.funcNamed "assize/assizelaw05.TreePrints" = some f) (hfn : Tryz.pinned.checked.prog.funcs[f]? = some fn) :
  false = Tryz.pinned.checked.prog.looks [] ∧ ∀ (j : Nat) t, fn.params[j]? = some t → Tryz.pinned.checked.prog.wantsStandIn t = false := by
 obtain rfl : f = 3 := Option.some.inj ((show Tryz.prog.funcNamed "assize/assizelaw05.TreePrints" = some 3 by kernel_rfl).symm.trans hf) |>.symm
 obtain rfl : fn = Tryz.f3 := (Option.some.inj (Tryz.func3.symm.trans hfn)).symm
 refine ⟨by kernel_rfl, fun j t ht => ?_⟩
 rw [Tryz.params3] at ht
 obtain rfl | rfl | rfl : t = 26 ∨ t = 34 ∨ t = 31 := by simpa using Array.mem_of_getElem? ht
 ·exact (show Tryz.prog.wantsStandIn 26 = false by kernel_rfl)
 ·exact (show Tryz.prog.wantsStandIn 34 = false by kernel_rfl)
 ·exact (show Tryz.prog.wantsStandIn 31 = false by kernel_rfl)

/-- ████ THE CARD ████ -/
theorem card : Rows.TreePrintsUptoCardSaid :=
 Claim7.holds_tied_plain_at .later [] _ _ _ _ saidUpto (fun _ h => by cases h) (by kernel_rfl) (fun _ h => by cases h) treePrintsUpto_row_tie rfl ⟨rfl, rfl⟩ (by kernel_rfl) rfl plain (by kernel_rfl)
end Go.Proofs.YtcmahiphfpgadaaGreatDoor.treePrints
namespace Go.Proofs.YtcmahiphfpgadaaGreatDoor
theorem treePrints_holds : Rows.TreePrintsUptoCardSaid := treePrints.card
#print axioms treePrints_holds
end Go.Proofs.YtcmahiphfpgadaaGreatDoor
