/- The reckoner: part EvU. -/
import Derived.Test.YthgjjogleklmcaaGreatDoorEvB
namespace Go.Proofs.YthgjjogleklmcaaGreatDoor.Ev
noncomputable section
def aggU : TypeDesc → Bool
  | .struct _ | .array _ _ => true
  | _ => false
def fieldsOk (P : Program) : TypeDesc → Bool
  | .struct fs => allL (fun f => (P.info? f.type).isSome) fs.toList
  | _ => true
def isAggV : Value → Bool
  | .agg _ => true
  | _ => false
def eqB (a b : Bool) : Bool := bsel a b (not b)
def zeroOf (size : Nat) (agg : Bool) (v : Value) : Option (List Value) :=
  bsel (plainL v.cells.toList) (bsel (Nat.beq v.cells.toList.length size) (bsel (allL oneCell v.cells.toList) (bsel (eqB (isAggV v) agg) (some v.cells.toList) none) none) none) none
def tyOfU (P : Program) (t : Nat) : Option TyI := osel (P.info? t) none fun j => osel (P.underlying t) none fun u =>
  bsel (fieldsOk P u) (some ⟨u, aggU u, j.size, j.bytes, osel j.zero none (zeroOf j.size (aggU u))⟩) none
def isSomeB {α : Type} (x : Option α) : Bool := osel x false fun _ => true
def fnOfU (P : Program) (f : Nat) : Option Func := osel P.funcs[f]? none fun fn => bsel (bsel (isSomeB fn.body) (not (fn.name == "runtime.NumGoroutine")) true) (some fn) none
def tabU {α : Type} (f : Nat → Option α) : List Nat → BT α → BT α
  | [], t => t
  | i :: r, t => tabU f r (t.put i (f i))
def scanU {α : Type} : List (Nat × α) → Nat → Option α
  | [], _ => none
  | p :: r, f => bsel (Nat.beq p.1 f) (some p.2) (scanU r f)
def memU : List (Nat × Memo) → BT Memo → BT Memo
  | [], t => t
  | p :: r, t => memU r (t.put p.1 (some p.2))
def mkU (P : Program) (nt nf : Nat) (hints : List (Nat × Nat)) (exts : List (Nat × ExtI)) (md : Nat) (memos : List (Nat × Memo)) : Tb :=
  ⟨P, tabU (scanU exts) (List.range nf) (BT.mk (depthOf nf) 0), tabU (tyOfU P) (List.range nt) (BT.mk (depthOf nt) 0), tabU (fnOfU P) (List.range nf) (BT.mk (depthOf nf) 0),
   tabU (scanU hints) (List.range nf) (BT.mk (depthOf nf) 0), P.globals.size, memU memos (BT.mk md 0)⟩
/-- a call, from what it is to find alone -/
def memoU (P : Tb) (n D : Nat) (N : Nat) (m : Memo) : Bool := match run P n (.call m.f m.args ⟨N, putAll m.tin (BT.mk D 0)⟩) with
  | .val v H => bsel (sameV m.v v) (bsel (Nat.ble H.next m.next) (allIn m.tout H.tr) false) false
  | _ => false
def goodU : Got → Bool
  | .val v _ => match v with | .bool true => true | _ => false
  | _ => false
end
end Go.Proofs.YthgjjogleklmcaaGreatDoor.Ev
