/- The reckoner: part EvP. -/
import GoSem.Step
namespace Go.Proofs.YthgjjogleklmcaaGreatDoor.Ev
set_option linter.unusedVariables false
noncomputable section
inductive BT (α : Type) where
  | leaf (key : Nat) (v : Option α)
  | node (m : Nat) (l r : BT α)
def bsel {α : Type} (b : Bool) (t e : α) : α := Bool.rec e t b
def osel {α β : Type} (o : Option α) (n : β) (s : α → β) : β := Option.rec n s o
namespace BT
variable {α : Type}
def get (t : BT α) : Nat → Option α :=
  BT.rec (motive := fun _ => Nat → Option α)
    (fun key v k => Bool.rec none v (Nat.beq key k))
    (fun m _ _ gl gr k => Bool.rec (gl k) (gr k) (Nat.ble m k)) t
def put (t : BT α) : Nat → Option α → BT α :=
  BT.rec (motive := fun _ => Nat → Option α → BT α)
    (fun key v k x => Bool.rec (.leaf key v) (.leaf key x) (Nat.beq key k))
    (fun m l r pl pr k x => Bool.rec (.node m (pl k x) r) (.node m l (pr k x)) (Nat.ble m k)) t
def mk (d : Nat) : Nat → BT α :=
  Nat.rec (motive := fun _ => Nat → BT α)
    (fun b => .leaf b none)
    (fun d ih b => .node (Nat.add b (Nat.pow 2 d)) (ih b) (ih (Nat.add b (Nat.pow 2 d)))) d
def putL (vs : List α) : Nat → BT α → BT α :=
  List.rec (motive := fun _ => Nat → BT α → BT α)
    (fun _ t => t)
    (fun v _ ih i t => ih (Nat.succ i) (t.put i (some v))) vs
def getL (t : BT α) (n : Nat) : Nat → Option (List α) :=
  Nat.rec (motive := fun _ => Nat → Option (List α))
    (fun _ => some [])
    (fun _ ih i => Option.rec none (fun v => Option.rec none (fun r => some (v :: r)) (ih (Nat.succ i))) (t.get i)) n
end BT
def scan (L : List (Nat × Value)) : Nat → Option Value :=
  List.rec (motive := fun _ => Nat → Option Value)
    (fun _ => none)
    (fun p _ ih t => Bool.rec (ih t) (some p.2) (Nat.beq p.1 t)) L
def nth {α : Type} (l : List α) : Nat → Option α :=
  List.rec (motive := fun _ => Nat → Option α)
    (fun _ => none)
    (fun x _ ih i => Nat.rec (some x) (fun j _ => ih j) i) l
def bytesEq (a : List UInt8) : List UInt8 → Bool :=
  List.rec (motive := fun _ => List UInt8 → Bool)
    (fun b => List.rec true (fun _ _ _ => false) b)
    (fun x _ ih b => List.rec false (fun y r _ => Bool.rec false (ih r) (Nat.beq x.toNat y.toNat)) b) a
def mapO {α β : Type} (f : α → Option β) (l : List α) : Option (List β) :=
  List.rec (some []) (fun x _ ih => Option.rec none (fun y => Option.rec none (fun r => some (y :: r)) ih) (f x)) l
end
end Go.Proofs.YthgjjogleklmcaaGreatDoor.Ev
