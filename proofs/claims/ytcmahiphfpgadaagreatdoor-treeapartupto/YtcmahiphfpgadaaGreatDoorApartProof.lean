/- Proved: two programs that may be printed have one text just if they are the same, and a copy of a program is the same as it, where the arguments hold at most 1048576 values and letters; the listed variables of the library lie as the program's text lays them (the card ties them). -/
import Derived.Test.YtcmahiphfpgadaaGreatDoorJ28
import Derived.Test.YtcmahiphfpgadaaGreatDoorJ29
import Derived.Test.YtcmahiphfpgadaaGreatDoorCards
import Derived.Test.YtcmahiphfpgadaaGreatDoorTie
import Derived.WalkKit
import Derived.ProofKit
import Derived.OpenShut
import Derived.ShutString
import Derived.ChangeOld
import Derived.Below
import Derived.LaidMore
import Derived.SevenTiedAt
import Derived.Deep.DeepHandedRow
namespace Go.Proofs.YtcmahiphfpgadaaGreatDoor.treeApart
open Go.ChangeShapes Go.WideShapes Go.ChangeAt Go.RowKit
set_option linter.unusedVariables false

theorem own : ownKnob Tryz.prog.godebug = none := by kernel_rfl
theorem laidOut : laidOutB Tryz.prog = true := by kernel_rfl

theorem nm_size (s : ByteArray) : s.size = s.data.toList.length := by rw [Array.length_toList]; rfl

theorem copy_any (p : PT) (B : Nat) (hw : pgW p.pg ≤ 1048576) (w : World) (hin : p.In B w) (hBw : B ≤ w.heap.size) :
    Calls Tryz.prog 24 #[.agg p.cells.toArray] w fun r w' => Hid (∃ y : PT, r = .returned (.agg y.cells.toArray) ∧ y.pg = p.pg ∧ y.In w'.heap.size w' ∧ Below w.heap.size w w') := by
  have hw' : ((p.shared.map VT.vr).map vrW).sum + ((p.mutexes.map fun s : ByteArray => s.data.toList).map fun m => m.length + 1).sum + ((p.threads.map TT.th).map thW).sum ≤ 1048576 := hw
  refine copy_of B p (fun v hv => copyVar_any B v ?_) (fun s hs => ?_) (fun t ht => ?_) w hin hBw
  · have h1 := le_sum vrW (p.shared.map VT.vr) v.vr (List.mem_map_of_mem hv)
    have h2 : vrW v.vr = v.nm.data.toList.length + 1 := rfl
    have h3 := nm_size v.nm
    omega
  · have h1 := le_sum (fun m : List UInt8 => m.length + 1) (p.mutexes.map fun s : ByteArray => s.data.toList) s.data.toList (List.mem_map_of_mem (f := fun s : ByteArray => s.data.toList) hs)
    have h3 := nm_size s
    omega
  · have h1 := le_sum thW (p.threads.map TT.th) t.th (List.mem_map_of_mem ht)
    obtain ⟨nm, a1, c1, ls, a2, c2, bs⟩ := t
    have h2 : thW (TT.th ⟨nm, a1, c1, ls, a2, c2, bs⟩) = nm.data.toList.length + 1 + ((ls.map VT.vr).map vrW).sum + stWs (bs.map ST.st) := rfl
    refine copyThread_of B nm a1 c1 ls a2 c2 bs ?_ (fun v hv => copyVar_any B v ?_) (fun s hs => copyStmt_any B _ s (Nat.lt_succ_self _) ?_)
    · have h3 := nm_size nm
      omega
    · have h4 := le_sum vrW (ls.map VT.vr) v.vr (List.mem_map_of_mem hv)
      have h5 : vrW v.vr = v.nm.data.toList.length + 1 := rfl
      have h3 := nm_size v.nm
      omega
    · have h4 := stWs_mem (bs.map ST.st) s.st (List.mem_map_of_mem hs)
      omega

theorem cells3 (p : PT) : p.cells.toArray = #[.slice p.a1 p.shared.length p.c1, .slice p.a2 p.mutexes.length p.c2, .slice p.a3 p.threads.length p.c3] := rfl

theorem walk (p q : PT) (w : World) (hp : p.In w.heap.size w) (hq : q.In w.heap.size w) (kp : pgOk p.pg) (kq : pgOk q.pg) (wp : pgW p.pg ≤ 1048576) (wq : pgW q.pg ≤ 1048576) (hT : Tab w) (h4 : gB ≤ w.heap.size) :
    Calls Tryz.prog 5 #[.agg p.cells.toArray, .agg q.cells.toArray] w fun e w' => e = .returned (.bool true) ∧ Below w.heap.size w w' := by
  have hO : ∀ x, Below w.heap.size w x → Old w.heap.size w x ∧ w.heap.size ≤ x.heap.size ∧ Tab x ∧ gB ≤ x.heap.size := fun x hx => ⟨Old.of_below hx (Nat.le_refl _), hx.size, hT.below hx h4, by have := hx.size; omega⟩
  have k6p := fun x hx => large_any w.heap.size p x (hp.old (hO x hx).1) (hO x hx).2.1
  have k6q := fun x hx => large_any w.heap.size q x (hq.old (hO x hx).1) (hO x hx).2.1
  have k10p := fun x hx => print8_any p w.heap.size x (hp.old (hO x hx).1) (hO x hx).2.1 (hO x hx).2.2.1 (hO x hx).2.2.2 (pgT_len p.pg kp wp)
  have k10q := fun x hx => print8_any q w.heap.size x (hq.old (hO x hx).1) (hO x hx).2.1 (hO x hx).2.2.1 (hO x hx).2.2.2 (pgT_len q.pg kq wq)
  have k24 := fun x hx => copy_any p w.heap.size wp x (hp.old (hO x hx).1) (hO x hx).2.1
  have k19 := fun x hx => same_any w.heap.size p p x (hp.old (hO x hx).1) (hp.old (hO x hx).1) (hO x hx).2.1
  have k16 := fun x hx => kitProgram_any w.heap.size p q x (hp.old (hO x hx).1) (hq.old (hO x hx).1) (hO x hx).2.1
  have hpp : samP p.pg p.pg = true := (samP_eq _ _).2 rfl
  have ksy : ∀ (y : PT) (W : World), y.pg = p.pg → y.In W.heap.size W → Below w.heap.size w W → ∀ x', Below W.heap.size W x' → Calls Tryz.prog 19 #[.agg y.cells.toArray, .agg p.cells.toArray] x' fun r w'' => r = .returned (.bool (samP y.pg p.pg)) ∧ Below x'.heap.size x' w'' := fun y W hyp hy hW x' hx' =>
    same_any W.heap.size y p x' (hy.old (Old.of_below hx' (Nat.le_refl _))) ((hp.old (Old.of_below (hW.trans (hx'.mono hW.size)) (Nat.le_refl _))).up hW.size) hx'.size
  simp only [cells3] at k6p k6q k10p k10q k24 k19 k16 ksy ⊢
  rw [hpp] at k19
  refine apart_at _ _ _ _ _ _ (if mayP p.pg = true ∧ (pgT p.pg).length ≤ 16384 then pgT p.pg else []) (if mayP q.pg = true ∧ (pgT q.pg).length ≤ 16384 then pgT q.pg else []) (if mayP p.pg = true then (if (pgT p.pg).length ≤ 16384 then 0 else 3) else 2) (if mayP q.pg = true then (if (pgT q.pg).length ≤ 16384 then 0 else 3) else 2) ?_ ?_ (samP p.pg q.pg) ?_ w (fun x hx => known3 x (hO x hx).2.2.1 (hO x hx).2.2.2) k6p k6q k10p k10q ?_ k19 k16
  · split
    · split <;> simp
    · simp
  · split
    · split <;> simp
    · simp
  · intro h1 h2
    by_cases m1 : mayP p.pg = true
    · rw [if_pos m1] at h1
      by_cases l1 : (pgT p.pg).length ≤ 16384
      · by_cases m2 : mayP q.pg = true
        · rw [if_pos m2] at h2
          by_cases l2 : (pgT q.pg).length ≤ 16384
          · rw [if_pos ⟨m1, l1⟩, if_pos ⟨m2, l2⟩]
            exact apart_math p.pg q.pg m1 m2 kp kq
          · rw [if_neg l2] at h2
            exact absurd h2 (by decide)
        · rw [if_neg m2] at h2
          exact absurd h2 (by decide)
      · rw [if_neg l1] at h1
        exact absurd h1 (by decide)
    · rw [if_neg m1] at h1
      exact absurd h1 (by decide)
  · intro x hx
    refine (k24 x hx).mono ?_
    rintro r w' ⟨y, rfl, hyp, hy, hb⟩
    refine ⟨_, _, _, rfl, one26 _ _ _ _ _ _ _ _ _, fun x' hx' => ?_, hb⟩
    have := ksy y w' hyp hy (hx.trans (hb.mono hx.size)) x' hx'
    rw [hyp, hpp] at this
    exact this

set_option maxRecDepth 100000 in
theorem open_arg {H : Type} {enc : TypeId × Value → H} {w : World} {sp : Nat → Bool} {held : Bool} {b0 : Nat} {v : Value} {d : DataW H} {ps : List MemPlace} (hval : Value.okWide Tryz.prog w .any b0 26 v) (hd : DataW.Trod enc Tryz.prog w 0 sp held 26 v d ps) (hN : Rows.uptoBulk d ≤ 1048576) :
    ∃ p : PT, v = .agg p.cells.toArray ∧ p.In w.heap.size w ∧ pgOk p.pg ∧ pgW p.pg ≤ 1048576 := by
  obtain ⟨cs, rfl, hsz⟩ := okWide_struct Tryz.underlying26 hval
  obtain ⟨fuel, hf⟩ := hd
  obtain ⟨p, ⟨h1, h2, h3⟩, h4⟩ := open_pg fuel _ _ hf hN
  refine ⟨p, ?_, h2, h3, h4⟩
  have h1 : cs.toList = p.cells := h1
  rw [← h1]

set_option maxRecDepth 100000 in
theorem contract (H : Type) (enc : TypeId × Value → H) (W : World) (base : Nat) (args : Array Value) (ds gs : List (DataW H)) (before : List MemPlace)
    (hval : ∀ (j : Nat) t v, Tryz.f5.params[j]? = some t → args[j]? = some v → Value.okWide Tryz.prog W .any base t v)
    (hW : DataW.Whole enc Tryz.prog Tryz.f5.params.toList Rows.treeApartSpec.vars false W args.toList ds gs before) (hk : Rows.uptoSmall H (ds ++ gs) = true) (hL : laidMetH Tryz.prog laidL W) :
    Calls Tryz.prog 5 args W fun e W' => ∃ v, e = .returned v ∧ Rows.treeApartSpec.post enc Tryz.prog Tryz.f5 false true false false W args v W' := by
  have hW' := hW
  obtain ⟨p, q, hA0, hV, rfl, hfz, hnd⟩ := hW
  have hA : DataW.TrodAll enc Tryz.prog W 0 (fun _ => true) true Tryz.f5.params.toList args.toList ds p := hA0
  rw [Tryz.params5] at hA hval
  obtain ⟨v0, vs0, d0, ds0, p0, q0, hargs, rfl, rfl, h0, r0⟩ := trodAll_cons hA
  obtain ⟨v1, vs1, d1, ds1, p1, q1, rfl, rfl, rfl, h1, r1⟩ := trodAll_cons r0
  obtain ⟨rfl, rfl, rfl⟩ := trodAll_nil r1
  obtain rfl : args = #[v0, v1] := by cases args; simp_all
  obtain ⟨rfl, rfl⟩ := trodVars_none hV
  have hbk : Rows.uptoBulkAll ([d0, d1] ++ []) ≤ 1048576 := of_decide_eq_true hk
  simp only [List.append_nil, Rows.uptoBulkAll] at hbk
  have k0 := h0
  have k1 := h1
  have lt0 : ∀ x ∈ p0, x.block < W.heap.size := by obtain ⟨m, hm⟩ := k0; exact DataW.trod_lt m _ _ _ hm
  have lt1 : ∀ x ∈ p1, x.block < W.heap.size := by obtain ⟨m, hm⟩ := k1; exact DataW.trod_lt m _ _ _ hm
  obtain ⟨pa, rfl, a2, a3, a4⟩ := open_arg (hval 0 26 v0 rfl rfl) h0 (by omega)
  obtain ⟨pb, rfl, b2, b3, b4⟩ := open_arg (hval 1 26 v1 rfl rfl) h1 (by omega)
  clear hA0 hval
  refine (walk pa pb W a2 b2 a3 b3 a4 b4 (tab_of_laid hL) (size_of_laid hL)).mono fun e W' ⟨he, bel⟩ => ?_
  subst he
  exact ⟨_, rfl, _, _, _, [], _, [], hW', trodAll_mk1 (shut_bool Tryz.underlying4 _), (trodAll_cons_mk (Below.trod laidOut (by kernel_rfl) (of_decide_eq_true (by kernel_rfl)) k0 bel lt0) (trodAll_cons_mk (Below.trod laidOut (by kernel_rfl) (of_decide_eq_true (by kernel_rfl)) k1 bel lt1) trodAll_mk0)), rfl, bel.frame _, fun h => by cases h⟩

def zeroP : Value := .agg #[.slice none 0 0, .slice none 0 0, .slice none 0 0]

theorem reads (os : Os) {H : Type} (enc : TypeId × Value → H) : ∃ places, DataW.whole enc Tryz.prog ((World.doorLaid Tryz.prog 400 os).forCall (fun _ _ => 0) ⟨#[], #[zeroP, zeroP], []⟩).memory Tryz.f5.params.toList Rows.treeApartSpec.vars false #[zeroP, zeroP].toList 8 = some ([.agg [.nil, .nil, .nil], .agg [.nil, .nil, .nil]], [], places) :=
  ⟨[], by kernel_rfl⟩

set_option maxRecDepth 100000 in
theorem lifted (os : Os) (started : os.Started) (H : Type) (enc : TypeId × Value → H) (F : Stop.Interp) :
    ReturnsInHanded {} Tryz.checked os 5 .any ((Rows.OpenSpec.upto Rows.treeApartSpec).preRow enc Tryz.prog Tryz.f5 Rows.treeApartUptoRow.domain false Rows.treeApartUptoRow.laid) (((Rows.OpenSpec.upto Rows.treeApartSpec).at F).post enc Tryz.prog Tryz.f5 false true false false) := by
  obtain ⟨places, hx⟩ := reads os enc
  refine returnsInHanded_of_row (C := Tryz.checked) (s := Rows.OpenSpec.upto Rows.treeApartSpec) own started (by kernel_rfl) Tryz.func5
    (witness_row_at (enc := enc) (C := Tryz.checked) false (World.doorLaid Tryz.prog 400 os) #[zeroP, zeroP] rfl (by kernel_rfl) (by kernel_rfl) (by kernel_rfl)
      (OpenSpec.preRow_of_cond 8 hx (by kernel_rfl) (fun k hk => by cases hk; kernel_rfl) (by kernel_rfl) (door_met os _))) ?_
  intro W base args ds gs before hval hW _ hcond _ hL _ _
  exact contract H enc W base args ds gs before hval hW (hcond _ rfl) hL

theorem saidUpto : Rows.TreeApartUptoSaid :=
  OpenClaim.holds_of_cond 5 Tryz.f5 rfl rfl rfl rfl rfl rfl rfl ⟨rfl, rfl, rfl, rfl, rfl⟩ rfl rfl rfl rfl rfl (by kernel_rfl) Tryz.func5 (by kernel_rfl)
    (of_decide_eq_true (by kernel_rfl)) (by unfold Func.isWrapper; first | (rw [if_pos (by decide +kernel)]; kernel_rfl) | (rw [if_neg (by decide +kernel)]; exact ⟨rfl, rfl⟩))
    (fun os started H enc _ F => by rw [OpenClaim.pre_eq_preRow]; exact lifted os started H enc F)

theorem plain (f : FuncId) (fn : Func) (hf : Tryz.pinned.checked.prog.funcNamed "assize/assizelaw05.TreeApart" = some f) (hfn : Tryz.pinned.checked.prog.funcs[f]? = some fn) :
    false = Tryz.pinned.checked.prog.looks [] ∧ ∀ (j : Nat) t, fn.params[j]? = some t → Tryz.pinned.checked.prog.wantsStandIn t = false := by
  obtain rfl : f = 5 := Option.some.inj ((show Tryz.prog.funcNamed "assize/assizelaw05.TreeApart" = some 5 by kernel_rfl).symm.trans hf) |>.symm
  obtain rfl : fn = Tryz.f5 := (Option.some.inj (Tryz.func5.symm.trans hfn)).symm
  refine ⟨by kernel_rfl, fun j t ht => ?_⟩
  rw [Tryz.params5] at ht
  obtain rfl : t = 26 := by simpa using Array.mem_of_getElem? ht
  exact (show Tryz.prog.wantsStandIn 26 = false by kernel_rfl)

/-- ████ THE CARD ████ -/
theorem card : Rows.TreeApartUptoCardSaid :=
  Claim7.holds_tied_plain_at .later [] _ _ _ _ saidUpto (fun _ h => by cases h) (by kernel_rfl) (fun _ h => by cases h) treeApartUpto_row_tie rfl ⟨rfl, rfl⟩ (by kernel_rfl) rfl plain (by kernel_rfl)
end Go.Proofs.YtcmahiphfpgadaaGreatDoor.treeApart
namespace Go.Proofs.YtcmahiphfpgadaaGreatDoor
theorem treeApart_holds : Rows.TreeApartUptoCardSaid := treeApart.card
#print axioms treeApart_holds
end Go.Proofs.YtcmahiphfpgadaaGreatDoor
