/- The reckoner: part EvB. -/
import Derived.Test.YthgjjogleklmcaaGreatDoorEvP
namespace Go.Proofs.YthgjjogleklmcaaGreatDoor.Ev
set_option linter.unusedVariables false
noncomputable section
/-! ### state -/
inductive Blk where
  | cells (elem : TypeId) (n d : Nat) (cs : BT Value) (grown : Bool) (fz : Nat) (st ro : Bool)
  | map (es : List MapEntry) (clock : Nat)
  | siter (s : List UInt8) (pos : Nat)

structure St where
  next : Nat
  tr : BT Blk

/-- what a frame has: the temporaries kept across regions are those of 'mask' -/
structure Lc where
  ng : Nat
  mask : Nat
  N : Nat
  T : BT Value
  D : List (FuncId × List Value)

abbrev Ls := List (Nat × Value)

inductive Ex where
  | normal | exit (id : Nat) | goto (l : Nat) | ret | panic (v : Value)

inductive Got where
  | code (e : Ex) (s : Lc) (H : St)
  | codeS (e : Ex) (s : Lc) (H : St) (p : Option Value)
  | val (v : Value) (H : St)
  | pan (v : Value) (H : St)
  | valD (H : St) (p : Option Value)
  | fail (why : Nat)

structure Rec where
  o : Oper
  v : Value
  act : Bool
  skip : Bool

inductive Job where
  | code (c : Code) (s : Lc) (H : St)
  | ops (l : List Oper) (all : Array Oper) (L : Ls) (s : Lc) (H : St)
  | dops (l : List Oper) (all : Array Oper) (rs : List Rec) (hs : List St) (L : Ls) (s : Lc) (H : St)
  | call (f : FuncId) (args : List Value) (H : St)
  | codeS (c : Code) (s : Lc) (H : St) (p : Option Value)
  | opsS (l : List Oper) (all : Array Oper) (L : Ls) (s : Lc) (H : St) (p : Option Value)
  | callD (f : FuncId) (args : List Value) (H : St) (p : Option Value)

inductive Did where
  | ok (v : Value) (H : St)
  | call (f : FuncId) (args : List Value)
  | pan (v : Value)
  | defer (f : FuncId) (args : List Value)
  | recover
  | fail (why : Nat)

structure TyI where
  under : TypeDesc
  agg : Bool
  size : Nat
  bytes : Nat
  zero : Option (List Value)

/-- what a function without a text of its own does: a row of the model's that only reckons with plain values, or what hands back what it got -/
inductive ExtI where
  | reckons (e : Array Value → Sem Value)
  | same

/-- a row of cells, as a list -/
structure MBlk where
  elem : TypeId
  n : Nat
  d : Nat
  vs : List Value
  grown : Bool
  fz : Nat
  st : Bool
  ro : Bool
/-- a call that was reckoned before: what it found, and what it told and left -/
structure Memo where
  f : FuncId
  args : List Value
  tin : List (Nat × MBlk)
  v : Value
  tout : List (Nat × MBlk)
  next : Nat

structure Tb where
  P : Program
  ext : BT ExtI
  ty : BT TyI
  fn : BT Func
  hint : BT Nat
  nglob : Nat
  memo : BT Memo

/-! ### plain values: those that lead nowhere -/
mutual
def plain : Value → Bool
  | .bool _ | .int _ _ | .float _ _ | .complex _ _ _ | .string _ | .nilFunc | .nilIface => true
  | .pointer none | .map none | .chan none | .slice none _ _ => true
  | .iface _ v => plain v
  | .agg ⟨cs⟩ => plainL cs
  | .tuple ⟨cs⟩ => plainL cs
  | .func (.func _) ⟨a⟩ ⟨b⟩ => bsel (plainL a) (plainL b) false
  | _ => false
def plainL : List Value → Bool
  | [] => true
  | v :: r => bsel (plain v) (plainL r) false
end
/-! ### numbers below a bound -/
mutual
def bnd (n : Nat) : Value → Bool
  | .pointer (some a) => Nat.ble (Nat.succ a.block) n
  | .slice (some a) _ c => bsel (Nat.ble (Nat.succ a.block) n) (bsel (Nat.ble c 9223372036854775807) true (Nat.ble c (Nat.mul 18446744073709551616 n))) false
  | .map (some r) => Nat.ble (Nat.succ r) n
  | .iface _ v => bnd n v
  | .agg ⟨cs⟩ => bndL n cs
  | .tuple ⟨cs⟩ => bndL n cs
  | .func (.func f) ⟨a⟩ ⟨b⟩ => bsel (bndL n a) (bndL n b) false
  | _ => true
def bndL (n : Nat) : List Value → Bool
  | [] => true
  | v :: r => bsel (bnd n v) (bndL n r) false
end
/-! ### operands -/
def bitAt (m t : Nat) : Bool := Nat.beq (Nat.land (Nat.shiftRight m t) 1) 1
def getT (s : Lc) (L : Ls) (t : Nat) : Option Value := bsel (bitAt s.mask t) (s.T.get t) (scan L t)
def evO (s : Lc) (L : Ls) : Operand → Option Value
  | .tmp t => getT s L t
  | .const v => bsel (plain v) (some v) none
  | .global g => bsel (Nat.ble (Nat.succ g) s.ng) (some (.pointer (some ⟨g, 0, none⟩))) none
  | .func f => some (.func (.func f) #[] #[])
def evL (s : Lc) (L : Ls) (l : List Operand) : Option (List Value) := mapO (evO s L) l

def bndO (n : Nat) (s : Lc) (L : Ls) (x : Operand) : Bool := osel (evO s L x) true (bnd n)
def plainO (s : Lc) (L : Ls) (x : Operand) : Bool := osel (evO s L x) false plain

/-! ### ints -/
def wrap64 (n : Int) : Int := match n with
  | .ofNat m => bsel (Nat.ble m 9223372036854775807) n (IntKind.i64.wrap n)
  | .negSucc m => bsel (Nat.ble m 9223372036854775807) n (IntKind.i64.wrap n)
def wrapB (k : IntKind) (b : Nat) (n : Int) : Int := match n with
  | .ofNat m => bsel (Nat.ble m b) n (k.wrap n)
  | .negSucc _ => k.wrap n
def wrapK (k : IntKind) (n : Int) : Int := match k with
  | .i64 => wrap64 n
  | .u8 => wrapB .u8 255 n
  | .u64 => wrapB .u64 18446744073709551615 n
  | .u32 => wrapB .u32 4294967295 n
  | .i32 => wrapB .i32 2147483647 n
  | k => k.wrap n
def intLt (a b : Int) : Bool := match a, b with
  | .ofNat a, .ofNat b => Nat.ble (Nat.succ a) b
  | .negSucc _, .ofNat _ => true
  | .ofNat _, .negSucc _ => false
  | .negSucc a, .negSucc b => Nat.ble (Nat.succ b) a
def intEq (a b : Int) : Bool := match a, b with
  | .ofNat a, .ofNat b => Nat.beq a b
  | .negSucc a, .negSucc b => Nat.beq a b
  | _, _ => false
def kindNo : IntKind → Nat
  | .i8 => 0 | .i16 => 1 | .i32 => 2 | .i64 => 3 | .u8 => 4 | .u16 => 5 | .u32 => 6 | .u64 => 7
def kindEq (a b : IntKind) : Bool := Nat.beq (kindNo a) (kindNo b)
def aInt (op : BinOp) : IntKind → Int → Int → Option Value := match op with
  | .add => fun k a b => some (.int k (wrapK k (Int.add a b)))
  | .sub => fun k a b => some (.int k (wrapK k (Int.sub a b)))
  | .mul => fun k a b => some (.int k (wrapK k (Int.mul a b)))
  | .eql => fun _ a b => some (.bool (intEq a b))
  | .neq => fun _ a b => some (.bool (not (intEq a b)))
  | .lss => fun _ a b => some (.bool (intLt a b))
  | .leq => fun _ a b => some (.bool (not (intLt b a)))
  | .gtr => fun _ a b => some (.bool (intLt b a))
  | .geq => fun _ a b => some (.bool (not (intLt a b)))
  | _ => fun _ _ _ => none
def natOf : Value → Option Nat
  | .int _ (.ofNat n) => some n
  | _ => none
def asNat (o : Option Value) : Option Nat := osel o none natOf

/-! ### blocks -/
def BIG : Nat := 18446744073709551616
def depthOf (n : Nat) : Nat := bsel (Nat.ble n 1) 0 (Nat.succ (Nat.log2 (Nat.pred n)))
def treeOf (vs : List Value) (d : Nat) : BT Value := BT.putL vs 0 (BT.mk d 0)
def mkCells (elem : TypeId) (vs : List Value) (n d : Nat) (grown st : Bool) : Blk := .cells elem n d (treeOf vs d) grown 0 st false
def newB (H : St) (b : Blk) : St := ⟨Nat.succ H.next, H.tr.put H.next (some b)⟩
def newCells (H : St) (elem : TypeId) (vs : List Value) (grown st : Bool) : St :=
  newB H (mkCells elem vs vs.length (depthOf vs.length) grown st)
def ptrTo (b : Nat) : Value := .pointer (some ⟨b, 0, none⟩)
def cellsL : Value → List Value
  | .agg cs => cs.toList
  | v => [v]
def oneCell : Value → Bool
  | .agg _ | .tuple _ | .chan (some _) => false
  | _ => true
def allL {α : Type} (f : α → Bool) : List α → Bool
  | [] => true
  | x :: r => bsel (f x) (allL f r) false
def noSpot (a : Addr) : Bool := osel a.spot true fun _ => false
def loadB (t : TyI) (off : Nat) (H : St) : Blk → Did
  | .cells _ _ _ cs _ _ _ _ => bsel t.agg
      (osel (BT.getL cs t.size off) (.fail 10) fun l => .ok (.agg l.toArray) H)
      (osel (cs.get off) (.fail 11) fun v => .ok v H)
  | _ => .fail 12
def loadAddr (P : Tb) (H : St) (t : TypeId) (a : Addr) : Did :=
  bsel (noSpot a) (osel (P.ty.get t) (.fail 13) fun i => osel (H.tr.get a.block) (.fail 14) (loadB i a.off H)) (.fail 15)
def storeB (H : St) (b off : Nat) (vs : List Value) : Blk → Did
  | .cells e n d cs g fz st ro =>
    bsel ro (.fail 20) (bsel (Nat.ble (Nat.add off vs.length) n) (bsel (Nat.ble fz off)
      (.ok (.tuple #[]) ⟨H.next, H.tr.put b (some (.cells e n d (BT.putL vs off cs) g fz st ro))⟩) (.fail 21)) (.fail 22))
  | _ => .fail 23
def storeAddr (P : Tb) (H : St) (t : TypeId) (a : Addr) (vs : List Value) : Did :=
  bsel (noSpot a) (osel (P.ty.get t) (.fail 24) fun i => bsel (Nat.beq vs.length i.size) (bsel (allL oneCell vs) (osel (H.tr.get a.block) (.fail 25) (storeB H a.block a.off vs)) (.fail 26)) (.fail 27)) (.fail 28)
def withAddr (k : Addr → Did) : Value → Did
  | .pointer (some a) => k a
  | _ => .fail 30
def addA (a : Addr) (n : Nat) : Addr := match n with | 0 => a | n + 1 => ⟨a.block, Nat.add a.off (Nat.succ n), none⟩

/-! ### the operations -/
def pureRun {α : Type} (P : Program) : Sem α → Option α
  | .pure a => some a
  | .program k => pureRun P (k P)
  | .mark _ k => pureRun P k
  | _ => none
def pureDid (H : St) : Option Next → Did
  | some (.value v) => bsel (plain v) (.ok v H) (.fail 40)
  | _ => .fail 41
def execPure (P : Tb) (s : Lc) (L : Ls) (H : St) (o : Oper) : Did :=
  bsel (allL (plainO s L) o.op.operands.toList)
    (pureDid H (pureRun P.P (execOp (fun x => (evO s L x).getD (.tuple #[])) o))) (.fail 42)
def xMove (x : Operand) (P : Tb) (s : Lc) (L : Ls) (H : St) (o : Oper) : Did := osel (evO s L x) (.fail 43) fun v => .ok v H
def pickV (a b : Option Value) (H : St) : Value → Did
  | .bool t => osel (bsel t a b) (.fail 44) fun v => .ok v H
  | _ => .fail 45
def xPick (c a b : Operand) (P : Tb) (s : Lc) (L : Ls) (H : St) (o : Oper) : Did := osel (evO s L c) (.fail 46) (pickV (evO s L a) (evO s L b) H)
def xAlloc (t : TypeId) (P : Tb) (s : Lc) (L : Ls) (H : St) (o : Oper) : Did :=
  osel (P.ty.get t) (.fail 50) fun i => osel i.zero (.fail 51) fun z => .ok (ptrTo H.next) (newCells H t z false false)
def xBox (t : TypeId) (x : Operand) (P : Tb) (s : Lc) (L : Ls) (H : St) (o : Oper) : Did :=
  osel (evO s L x) (.fail 52) fun v => .ok (ptrTo H.next) (newCells H t (cellsL v) false false)
def partsL (s : Lc) (L : Ls) (l : List (Nat × Operand)) : Option (List (Nat × Value)) := mapO (fun p => osel (evO s L p.2) none fun v => some (p.1, v)) l
/-- the parts of a list of cells put into their places -/
def fillL (place : Nat → Option (Nat × Nat)) (cs : List Value) : List (Nat × Value) → Option (List Value)
  | [] => some cs
  | p :: r => osel (place p.1) none fun q => bsel (Nat.beq (cellsL p.2).length q.2)
      (bsel (Nat.ble (Nat.add q.1 q.2) cs.length) (fillL place (cs.take q.1 ++ (cellsL p.2 ++ cs.drop (Nat.add q.1 q.2))) r) none) none
def fieldPlaces (P : Tb) (fs : Array Field) (i : Nat) : Option (Nat × Nat) :=
  osel (fs[i]?) none fun f => osel (P.ty.get f.type) none fun t => some (f.offset, t.size)
def buildD (P : Tb) (H : St) (z : List Value) (ps : List (Nat × Value)) : TypeDesc → Did
  | .struct fs => osel (fillL (fieldPlaces P fs) z ps) (.fail 53) fun l => .ok (.agg l.toArray) H
  | .array _ e => osel (P.ty.get e) (.fail 54) fun t => osel (fillL (fun i => some (Nat.mul i t.size, t.size)) z ps) (.fail 55) fun l => .ok (.agg l.toArray) H
  | _ => .fail 56
def xBuild (t : TypeId) (parts : Array (Nat × Operand)) (P : Tb) (s : Lc) (L : Ls) (H : St) (o : Oper) : Did :=
  osel (P.ty.get t) (.fail 57) fun i => osel i.zero (.fail 58) fun z => osel (partsL s L parts.toList) (.fail 59) fun ps => buildD P H z ps i.under
def repL (z : List Value) : Nat → List Value
  | 0 => []
  | n + 1 => z ++ repL z n
def elemOf : TypeDesc → Option TypeId
  | .slice e => some e
  | _ => none
def elemTy (P : Tb) (t : TypeId) : Option (TypeId × TyI) := osel (P.ty.get t) none fun i => osel (elemOf i.under) none fun e => osel (P.ty.get e) none fun j => some (e, j)
def xBuildSlice (t : TypeId) (len : Nat) (parts : Array (Nat × Operand)) (P : Tb) (s : Lc) (L : Ls) (H : St) (o : Oper) : Did :=
  osel (elemTy P t) (.fail 60) fun e => osel e.2.zero (.fail 61) fun z => osel (partsL s L parts.toList) (.fail 62) fun ps =>
    bsel (Nat.ble (Nat.mul len (Nat.succ e.2.size)) 100000) (osel (fillL (fun i => some (Nat.mul i e.2.size, e.2.size)) (repL z len) ps) (.fail 63) fun l =>
      .ok (.slice (some ⟨H.next, 0, none⟩) len len) (newCells H e.1 l false false)) (.fail 64)
def xLoad (t : TypeId) (x : Operand) (P : Tb) (s : Lc) (L : Ls) (H : St) (o : Oper) : Did := osel (evO s L x) (.fail 65) (withAddr (loadAddr P H t))
def xStore (t : TypeId) (x y : Operand) (P : Tb) (s : Lc) (L : Ls) (H : St) (o : Oper) : Did :=
  osel (evO s L x) (.fail 66) (withAddr fun a => osel (evO s L y) (.fail 67) fun v => storeAddr P H t a (cellsL v))
def nilV (H : St) : Value → Did
  | .pointer (some a) => .ok (.pointer (some a)) H
  | .iface t v => .ok (.iface t v) H
  | .func (.func f) a b => .ok (.func (.func f) a b) H
  | _ => .fail 68
def xNilCheck (x : Operand) (P : Tb) (s : Lc) (L : Ls) (H : St) (o : Oper) : Did := osel (evO s L x) (.fail 69) (nilV H)
/-- whether two values are the same, where one of them is nil or both are of one kind that can be told at once -/
def eqV : TypeDesc → Value → Value → Option Bool
  | .bool, .bool a, .bool b => some (Bool.rec (not b) b a)
  | .pointer _, .pointer none, .pointer none => some true
  | .pointer _, .pointer none, .pointer (some _) => some false
  | .pointer _, .pointer (some _), .pointer none => some false
  | .interface _, .nilIface, .iface _ _ => some false
  | .interface _, .iface _ _, .nilIface => some false
  | .slice _, .slice none _ _, .slice none _ _ => some true
  | .slice _, .slice none _ _, .slice (some _) _ _ => some false
  | .slice _, .slice (some _) _ _, .slice none _ _ => some false
  | .map _ _, .map none, .map none => some true
  | .map _ _, .map none, .map (some _) => some false
  | .map _ _, .map (some _), .map none => some false
  | .func _ _ _, .nilFunc, .nilFunc => some true
  | .func _ _ _, .nilFunc, .func _ _ _ => some false
  | .func _ _ _, .func _ _ _, .nilFunc => some false
  | _, _, _ => none
def isIface : TypeDesc → Bool
  | .interface _ => true
  | _ => false
def isConst : Operand → Bool
  | .const _ => true
  | _ => false
def isNilI : Value → Bool
  | .nilIface => true
  | _ => false
def eqOp (H : St) (f : Bool → Bool) (k : Did) : Option Bool → Did
  | some b => .ok (.bool (f b)) H
  | none => k
def idB (b : Bool) : Bool := b
def strOp (op : BinOp) : List UInt8 → List UInt8 → Option Value := match op with
  | .add => fun a b => bsel (Nat.ble (Nat.add a.length b.length) 1000000) (some (.string ⟨(a ++ b).toArray⟩)) none
  | .eql => fun a b => some (.bool (bytesEq a b))
  | .neq => fun a b => some (.bool (not (bytesEq a b)))
  | _ => fun _ _ => none
def fromO (H : St) (k : Did) : Option Value → Did
  | some v => .ok v H
  | none => k
/-- two pointers into one block -/
def ptrEq (P : Tb) (t : TypeId) (a b : Addr) : Option Bool :=
  osel (P.ty.get t) none fun i => match i.under with
    | .pointer e => osel (P.ty.get e) none fun j => bsel (Nat.beq j.size 0) none (bsel (noSpot a) (bsel (noSpot b) (bsel (Nat.beq a.block b.block) (some (Nat.beq a.off b.off)) none) none) none)
    | _ => none
def binV (P : Tb) (op : BinOp) (t : TypeId) (x y : Operand) (H : St) (k : Did) : Value → Value → Did
  | .int k1 a, .int k2 b => bsel (kindEq k1 k2) (fromO H k (aInt op k1 a b)) k
  | .string a, .string b => fromO H k (strOp op a.data.toList b.data.toList)
  | .pointer (some a), .pointer (some b) => match op with
    | .eql => eqOp H idB k (ptrEq P t a b)
    | .neq => eqOp H not k (ptrEq P t a b)
    | _ => .fail 69
  | .nilIface, .nilIface => osel (P.ty.get t) (.fail 70) fun i => bsel (isIface i.under) (bsel (bsel (isConst x) true (isConst y)) (match op with | .eql => .ok (.bool true) H | .neq => .ok (.bool false) H | _ => .fail 71) (.fail 70)) (.fail 70)
  | a, b => osel (P.ty.get t) (.fail 68) fun i => match op with
    | .eql => eqOp H idB k (eqV i.under a b)
    | .neq => eqOp H not k (eqV i.under a b)
    | _ => k
def xBin (op : BinOp) (t : TypeId) (x y : Operand) (P : Tb) (s : Lc) (L : Ls) (H : St) (o : Oper) : Did :=
  osel (evO s L x) (.fail 72) fun a => osel (evO s L y) (.fail 73) fun b => binV P op t x y H (execPure P s L H o) a b
def isU8 : TypeDesc → Bool
  | .int .u8 => true
  | _ => false
def byteOf : Value → Option UInt8
  | .int .u8 (.ofNat n) => bsel (Nat.ble n 255) (some (UInt8.ofNat n)) none
  | _ => none
def byteV (b : UInt8) : Value := .int .u8 (.ofNat b.toNat)
def strOfB (off n : Nat) (H : St) : Blk → Did
  | .cells _ _ _ cs _ _ _ _ => osel (BT.getL cs n off) (.fail 74) fun l => osel (mapO byteOf l) (.fail 75) fun bs => .ok (.string ⟨bs.toArray⟩) H
  | _ => .fail 76
def b2s (H : St) : Value → Did
  | .slice none _ _ => .ok (.string .empty) H
  | .slice (some a) n _ => bsel (Nat.beq n 0) (.ok (.string .empty) H) (bsel (noSpot a) (osel (H.tr.get a.block) (.fail 77) (strOfB a.off n H)) (.fail 78))
  | _ => .fail 79
def s2b (H : St) (e : TypeId) : Value → Did
  | .string s => .ok (.slice (some ⟨H.next, 0, none⟩) s.data.toList.length (Nat.mul BIG (Nat.succ H.next))) (newCells H e (s.data.toList.map byteV) true true)
  | _ => .fail 80
def convInt (H : St) (j : IntKind) (k : Did) : Value → Did
  | .int _ n => .ok (.int j (wrapK j n)) H
  | _ => k
def sameStr (H : St) (k : Did) : Value → Did
  | .string s => .ok (.string s) H
  | _ => k
/-- a pointer of no type, made of a pointer to what has cells, and back where a variable of that type begins there -/
def toUnsafe (P : Tb) (H : St) (t : TypeId) : Value → Did
  | .pointer none => .ok (.pointer none) H
  | .pointer (some a) => bsel (noSpot a) (osel (P.ty.get t) (.fail 81) fun i => bsel (Nat.beq i.size 0) (.fail 82) (osel (H.tr.get a.block) (.fail 83) fun b => match b with
      | .cells _ n _ _ _ _ _ _ => bsel (Nat.ble (Nat.succ a.off) n) (.ok (.pointer (some a)) H) (.fail 84)
      | _ => .fail 85)) (.fail 86)
  | _ => .fail 87
def fromUnsafe (P : Tb) (H : St) (u : TypeId) : Value → Did
  | .pointer none => .ok (.pointer none) H
  | .pointer (some a) => bsel (noSpot a) (osel (P.ty.get u) (.fail 94) fun _ => osel (H.tr.get a.block) (.fail 88) fun b => match b with
      | .cells e n _ _ g _ _ _ => bsel g (.fail 90) (bsel (liesAt P.P P.P.depth e (n / P.P.cellsOf e) a.off u 1) (.ok (.pointer (some a)) H) (.fail 89))
      | _ => .fail 91) (.fail 92)
  | _ => .fail 93
def convD (P : Tb) (H : St) (x : Value) (k : Did) : TypeDesc → TypeDesc → Did
  | .int _, .int j => convInt H j k x
  | .slice e, .string => osel (P.ty.get e) (.fail 94) fun i => bsel (isU8 i.under) (b2s H x) k
  | .string, .slice e => osel (P.ty.get e) (.fail 95) fun i => bsel (isU8 i.under) (bsel (Nat.beq i.size 1) (s2b H e x) (.fail 99)) k
  | .pointer t, .unsafePointer => toUnsafe P H t x
  | .unsafePointer, .pointer u => fromUnsafe P H u x
  | .string, .string => sameStr H k x
  | _, _ => k
def xConvert (src dst : TypeId) (x : Operand) (P : Tb) (s : Lc) (L : Ls) (H : St) (o : Oper) : Did :=
  osel (P.ty.get src) (.fail 96) fun i => osel (P.ty.get dst) (.fail 97) fun j => osel (evO s L x) (.fail 98) fun v => convD P H v (execPure P s L H o) i.under j.under
def xMakeInterface (t : TypeId) (x : Operand) (P : Tb) (s : Lc) (L : Ls) (H : St) (o : Oper) : Did :=
  osel (P.ty.get t) (.fail 100) fun i => bsel (isIface i.under) (.fail 101) (osel (evO s L x) (.fail 102) fun v => .ok (.iface t v) H)
def xMakeFunc (fn : Fn) (first captured : Array Operand) (P : Tb) (s : Lc) (L : Ls) (H : St) (o : Oper) : Did :=
  osel (evL s L first.toList) (.fail 103) fun a => osel (evL s L captured.toList) (.fail 104) fun b => match fn with
    | .func f => .ok (.func (.func f) a.toArray b.toArray) H
    | _ => .fail 105
def xMakeMap (r : Option Operand) (P : Tb) (s : Lc) (L : Ls) (H : St) (o : Oper) : Did := match r with
  | none => .ok (.map (some H.next)) (newB H (.map [] 0))
  | some _ => .fail 106
def xMakeSlice (t : TypeId) (l c : Operand) (P : Tb) (s : Lc) (L : Ls) (H : St) (o : Oper) : Did :=
  osel (elemTy P t) (.fail 107) fun e => osel e.2.zero (.fail 108) fun z => osel (asNat (evO s L l)) (.fail 109) fun n => osel (asNat (evO s L c)) (.fail 110) fun m =>
    bsel (Nat.ble n m) (bsel (Nat.ble (Nat.mul m (Nat.add e.2.bytes 1)) 1000000) (.ok (.slice (some ⟨H.next, 0, none⟩) n m) (newCells H e.1 (repL z m) false false)) (.fail 111)) (.fail 112)
def boundOr (d : Nat) (s : Lc) (L : Ls) : Option Operand → Option Nat
  | none => some d
  | some x => asNat (evO s L x)
def sliceTo (H : St) (a : Option Addr) (l h m size : Nat) : Did := .ok (.slice (bsel (Nat.beq m l) a (osel a none fun a => some (addA a (Nat.mul l size)))) (Nat.sub h l) (Nat.sub m l)) H
def knownUpTo (H : St) (end_ : Nat) (b : Nat) : Bool := osel (H.tr.get b) false fun x => match x with
  | .cells _ n _ _ _ _ _ _ => Nat.ble end_ n
  | _ => false
/-- a row that grows by itself: which capacity it has we don't know, but that so many elements lie there -/
def gFits (a : Addr) (e : TypeId) (cap h size : Nat) : Blk → Bool
  | .cells e' n _ _ g _ _ _ => bsel g (bsel (Nat.beq e e') (bsel (Nat.ble cap (Nat.mul BIG (Nat.succ a.block))) (bsel (Nat.ble (Nat.sub (Nat.mul BIG (Nat.succ a.block)) cap) 1000000000)
      (bsel (Nat.beq (Nat.mul (Nat.sub (Nat.mul BIG (Nat.succ a.block)) cap) size) a.off) (bsel (Nat.ble (Nat.add a.off (Nat.mul h size)) n) (Nat.ble 1 size) false) false) false) false) false) false
  | _ => false
def sliceG (H : St) (a : Addr) (e : TypeId) (cap l h size : Nat) (b : Blk) : Did :=
  bsel (gFits a e cap h size b) (bsel (bsel (Nat.beq l 0) true (Nat.ble (Nat.succ l) h)) (bsel (Nat.ble l 1000000000)
        (.ok (.slice (some (addA a (Nat.mul l size))) (Nat.sub h l) (Nat.sub cap l)) H) (.fail 400)) (.fail 401)) (.fail 402)
def maxOk : Option Operand → Option Operand → Bool
  | some _, none => false
  | _, _ => true
def sliceV (e : TypeId) (s : Lc) (L : Ls) (H : St) (size : Nat) (lo hi mx : Option Operand) : Value → Did
  | .slice a len cap => osel (boundOr len s L hi) (.fail 113) fun h => osel (boundOr 0 s L lo) (.fail 114) fun l => osel (boundOr cap s L mx) (.fail 115) fun m =>
    bsel (Nat.ble l h) (bsel (maxOk mx hi) (bsel (Nat.ble cap 9223372036854775807) (bsel (Nat.ble h m) (bsel (Nat.ble m cap) (sliceTo H a l h m size) (.fail 116)) (.fail 117))
      (osel a (.fail 118) fun a' => match mx with
        | none => bsel (noSpot a') (osel (H.tr.get a'.block) (.fail 119) (sliceG H a' e cap l h size)) (.fail 119)
        | some _ => .fail 120)) (.fail 120)) (.fail 121)
  | _ => .fail 122
def sliceA (s : Lc) (L : Ls) (H : St) (n size : Nat) (lo hi mx : Option Operand) : Value → Did
  | .pointer (some a) => osel (boundOr n s L hi) (.fail 123) fun h => osel (boundOr 0 s L lo) (.fail 124) fun l => osel (boundOr n s L mx) (.fail 125) fun m =>
    bsel (Nat.ble l h) (bsel (maxOk mx hi) (bsel (Nat.ble n 9223372036854775807) (bsel (Nat.ble h m) (bsel (Nat.ble m n) (sliceTo H (some a) l h m size) (.fail 126)) (.fail 127)) (.fail 128)) (.fail 128)) (.fail 128)
  | _ => .fail 129
def strSlice (s : Lc) (L : Ls) (H : St) (lo hi : Option Operand) : Value → Did
  | .string b => osel (boundOr b.data.toList.length s L hi) (.fail 130) fun h => osel (boundOr 0 s L lo) (.fail 131) fun l =>
    bsel (Nat.ble l h) (bsel (Nat.ble h b.data.toList.length) (.ok (.string ⟨((b.data.toList.drop l).take (Nat.sub h l)).toArray⟩) H) (.fail 132)) (.fail 133)
  | _ => .fail 134
def sliceD (P : Tb) (s : Lc) (L : Ls) (H : St) (lo hi mx : Option Operand) (x : Value) : TypeDesc → Did
  | .slice e => osel (P.ty.get e) (.fail 135) fun i => sliceV e s L H i.size lo hi mx x
  | .string => match mx with | none => strSlice s L H lo hi x | some _ => .fail 136
  | .array n e => osel (P.ty.get e) (.fail 137) fun i => sliceA s L H n i.size lo hi mx x
  | _ => .fail 138
def xSlice (t : TypeId) (x : Operand) (lo hi mx : Option Operand) (P : Tb) (s : Lc) (L : Ls) (H : St) (o : Oper) : Did :=
  osel (P.ty.get t) (.fail 140) fun i => osel (evO s L x) (.fail 141) fun v => sliceD P s L H lo hi mx v i.under
def fieldsOf : TypeDesc → Option (Array Field)
  | .struct fs => some fs
  | _ => none
def fieldOf (P : Tb) (t : TypeId) (f : Nat) : Option (Field × TyI) :=
  osel (P.ty.get t) none fun i => osel (fieldsOf i.under) none fun fs => osel (fs[f]?) none fun fl => osel (P.ty.get fl.type) none fun j => some (fl, j)
def xFieldAddr (t : TypeId) (x : Operand) (f : Nat) (P : Tb) (s : Lc) (L : Ls) (H : St) (o : Oper) : Did :=
  osel (fieldOf P t f) (.fail 142) fun p => bsel (Nat.beq p.2.size 0) (.fail 143) (osel (evO s L x) (.fail 144) (withAddr fun a => .ok (.pointer (some (addA a p.1.offset))) H))
def partV (H : St) (t : TyI) (cs : List Value) (off : Nat) : Did :=
  bsel t.agg (.ok (.agg ((cs.drop off).take t.size).toArray) H) (osel (nth cs off) (.fail 145) fun v => .ok v H)
def aggV (k : List Value → Did) : Value → Did
  | .agg cs => k cs.toList
  | _ => .fail 146
def xField (t : TypeId) (x : Operand) (f : Nat) (P : Tb) (s : Lc) (L : Ls) (H : St) (o : Oper) : Did :=
  osel (fieldOf P t f) (.fail 147) fun p => osel (evO s L x) (.fail 148) (aggV fun cs => partV H p.2 cs p.1.offset)
def idxA (H : St) (a : Addr) (len i size : Nat) : Did := bsel (Nat.ble (Nat.succ i) len) (.ok (.pointer (some (addA a (Nat.mul i size)))) H) (.fail 150)
def indexAddrD (P : Tb) (H : St) (i : Nat) (x : Value) : TypeDesc → Did
  | .slice e => osel (P.ty.get e) (.fail 151) fun j => match x with
    | .slice (some a) len _ => idxA H a len i j.size
    | _ => .fail 152
  | .array n e => osel (P.ty.get e) (.fail 153) fun j => match x with
    | .pointer (some a) => idxA H a n i j.size
    | _ => .fail 154
  | _ => .fail 155
def xIndexAddr (t : TypeId) (x ix : Operand) (P : Tb) (s : Lc) (L : Ls) (H : St) (o : Oper) : Did :=
  osel (P.ty.get t) (.fail 156) fun i => osel (evO s L x) (.fail 157) fun v => osel (asNat (evO s L ix)) (.fail 158) fun k => indexAddrD P H k v i.under
def indexD (P : Tb) (H : St) (i : Nat) (x : Value) : TypeDesc → Did
  | .string => match x with
    | .string b => osel (nth b.data.toList i) (.fail 160) fun c => .ok (byteV c) H
    | _ => .fail 161
  | .array n e => osel (P.ty.get e) (.fail 162) fun j => bsel (Nat.ble (Nat.succ i) n) (aggV (fun cs => partV H j cs (Nat.mul i j.size)) x) (.fail 163)
  | _ => .fail 164
def xIndex (t : TypeId) (x ix : Operand) (P : Tb) (s : Lc) (L : Ls) (H : St) (o : Oper) : Did :=
  osel (P.ty.get t) (.fail 165) fun i => osel (evO s L x) (.fail 166) fun v => osel (asNat (evO s L ix)) (.fail 167) fun k => indexD P H k v i.under
/-- keys of strings and ints -/
def keyEq : Value → Value → Option Bool
  | .int k1 a, .int k2 b => bsel (kindEq k1 k2) (some (intEq a b)) none
  | .string a, .string b => some (bytesEq a.data.toList b.data.toList)
  | _, _ => none
def keyKind : TypeDesc → Bool
  | .int _ | .string => true
  | _ => false
def keyFits : TypeDesc → Value → Bool
  | .int _, .int _ _ => true
  | .string, .string _ => true
  | _, _ => false
def findK (k : Value) : List MapEntry → Option (Option Value)
  | [] => some none
  | e :: r => osel (keyEq k e.key) none fun b => bsel b (some (some e.val)) (findK k r)
def setK (k v : Value) : List MapEntry → List MapEntry
  | [] => []
  | e :: r => osel (keyEq k e.key) (e :: setK k v r) fun b => bsel b (⟨k, v, e.born⟩ :: r) (e :: setK k v r)
def mapOf : TypeDesc → Option (TypeId × TypeId)
  | .map k e => some (k, e)
  | _ => none
def entriesOf (H : St) : Value → Option (List MapEntry)
  | .map none => some []
  | .map (some r) => osel (H.tr.get r) none fun b => match b with | .map es _ => some es | _ => none
  | _ => none
def valueOf (z : List Value) (agg : Bool) : Value := bsel agg (.agg z.toArray) (z.headD (.tuple #[]))
def xLookup (t : TypeId) (m k : Operand) (ok : Bool) (P : Tb) (s : Lc) (L : Ls) (H : St) (o : Oper) : Did :=
  osel (P.ty.get t) (.fail 170) fun i => osel (mapOf i.under) (.fail 171) fun ke => osel (P.ty.get ke.1) (.fail 172) fun ki => (
    osel (P.ty.get ke.2) (.fail 173) fun ei => osel ei.zero (.fail 174) fun z => osel (evO s L m) (.fail 175) fun mv => osel (entriesOf H mv) (.fail 176) fun es => osel (evO s L k) (.fail 177) fun kv => bsel (keyFits ki.under kv) (
      osel (findK kv es) (.fail 178) fun r => .ok (bsel ok (.tuple (osel r #[valueOf z ei.agg, .bool false] fun v => #[v, .bool true])) (osel r (valueOf z ei.agg) fun v => v)) H) (.fail 179))
def xMapUpdate (t : TypeId) (m k v : Operand) (P : Tb) (s : Lc) (L : Ls) (H : St) (o : Oper) : Did :=
  osel (P.ty.get t) (.fail 180) fun i => osel (mapOf i.under) (.fail 181) fun ke => osel (P.ty.get ke.1) (.fail 182) fun ki => (
    osel (evO s L m) (.fail 183) fun mv => match mv with
      | .map (some r) => osel (H.tr.get r) (.fail 184) fun b => match b with
        | .map es c => osel (evO s L k) (.fail 185) fun kv => osel (evO s L v) (.fail 186) fun vv => bsel (keyFits ki.under kv) (osel (findK kv es) (.fail 187) fun f =>
          osel f (.ok (.tuple #[]) ⟨H.next, H.tr.put r (some (.map (es ++ [⟨kv, vv, c⟩]) (Nat.succ c)))⟩) fun _ => .ok (.tuple #[]) ⟨H.next, H.tr.put r (some (.map (setK kv vv es) c))⟩) (.fail 190)
        | _ => .fail 188
      | _ => .fail 189)
def xExtract (x : Operand) (i : Nat) (P : Tb) (s : Lc) (L : Ls) (H : St) (o : Oper) : Did := osel (evO s L x) (.fail 191) fun v => match v with
  | .tuple vs => osel (nth vs.toList i) (.fail 192) fun v => .ok v H
  | _ => .fail 193
def assertV (P : Tb) (H : St) (asserted : TypeId) (ok : Bool) (i : TyI) : Value → Did
  | .nilIface => bsel ok (osel i.zero (.fail 194) fun z => .ok (.tuple #[valueOf z i.agg, .bool false]) H) (.fail 195)
  | .iface t v => bsel (isIface i.under) (.fail 196) (bsel (Nat.beq t asserted) (.ok (bsel ok (.tuple #[v, .bool true]) v) H)
      (bsel ok (osel i.zero (.fail 197) fun z => .ok (.tuple #[valueOf z i.agg, .bool false]) H) (.fail 198)))
  | _ => .fail 199
def xTypeAssert (x : Operand) (asserted : TypeId) (ok : Bool) (P : Tb) (s : Lc) (L : Ls) (H : St) (o : Oper) : Did :=
  osel (P.ty.get asserted) (.fail 200) fun i => osel (evO s L x) (.fail 201) (assertV P H asserted ok i)

/-! ### calls -/
def isNil {α : Type} : List α → Bool
  | [] => true
  | _ => false
def extD (P : Tb) (H : St) (args : List Value) : ExtI → Did
  | .reckons e => bsel (plainL args) (osel (pureRun P.P (e args.toArray)) (.fail 208) fun v => bsel (plain v) (.ok v H) (.fail 209)) (.fail 207)
  | .same => match args with
    | [v] => .ok v H
    | _ => .fail 206
/-- a function is called: its own text is entered, or it is one of the rows -/
def enterF1 (P : Tb) (H : St) (f : FuncId) (args : List Value) (fn : Func) : Did :=
  osel fn.body (osel (P.ext.get f) (.fail 211) (extD P H args)) fun _ => .call f args
def enterV (P : Tb) (H : St) (args : List Value) : Value → Did
  | .func (.func f) first captured => osel (P.fn.get f) (.fail 210) (enterF1 P H f (first.toList ++ (args ++ captured.toList)))
  | _ => .fail 212
def deferV : Did → Did
  | .call f args => .defer f args
  | _ => .fail 213
def lenVal : Value → Option Nat
  | .slice _ n _ => some n
  | .string s => some s.data.toList.length
  | _ => none
def firstB (off n : Nat) : Blk → Option (List Value)
  | .cells _ _ _ cs _ _ _ _ => BT.getL cs n off
  | _ => none
def firstV (H : St) (size n : Nat) : Value → Option (List Value)
  | .slice (some a) _ _ => bsel (noSpot a) (osel (H.tr.get a.block) none (firstB a.off (Nat.mul n size))) none
  | .string s => bsel (Nat.beq size 1) (some ((s.data.toList.take n).map byteV)) none
  | _ => none
def firstN (H : St) (size n : Nat) (x : Value) : Option (List Value) := bsel (Nat.beq n 0) (some []) (firstV H size n x)
def growTree (cs : BT Value) (d n : Nat) : BT Value × Nat :=
  bsel (Nat.ble n (Nat.pow 2 d)) (cs, d) (bsel (Nat.ble n (Nat.pow 2 (Nat.succ d))) (.node (Nat.pow 2 d) cs (BT.mk d (Nat.pow 2 d)), Nat.succ d) (cs, d))
def freshSlice (H : St) (e : TypeId) (vs : List Value) (n : Nat) : Did := .ok (.slice (some ⟨H.next, 0, none⟩) n (Nat.mul BIG (Nat.succ H.next))) (newCells H e vs true false)
/-- the row moves, or it doesn't: it is another block for us either way, and the old one is gone -/
def moveGrown (H : St) (a : Addr) (e : TypeId) (sLen n size : Nat) (new : List Value) : Blk → Did
  | .cells e' k d cs g fz st ro => bsel g (bsel ro (.fail 220) (bsel (Nat.beq e e') (bsel (Nat.ble (Nat.mul sLen size) k) (bsel (Nat.ble k (Nat.mul (Nat.add sLen n) size)) (bsel (Nat.ble fz (Nat.mul sLen size)) (
      .ok (.slice (some ⟨H.next, 0, none⟩) (Nat.add sLen n) (Nat.mul BIG (Nat.succ H.next)))
        ⟨Nat.succ H.next, (H.tr.put a.block none).put H.next (some (.cells e (Nat.mul (Nat.add sLen n) size) (growTree cs d (Nat.mul (Nat.add sLen n) size)).2 (BT.putL new (Nat.mul sLen size) (growTree cs d (Nat.mul (Nat.add sLen n) size)).1) true fz st false))⟩) (.fail 221)) (.fail 221)) (.fail 221)) (.fail 221))) (.fail 222)
  | _ => .fail 223
def appendTo (H : St) (a : Addr) (sLen cap n size : Nat) (new : List Value) (b : Blk) : Did :=
  match storeB H a.block (Nat.add a.off (Nat.mul sLen size)) new b with
    | .ok _ H => .ok (.slice (some a) (Nat.add sLen n) cap) H
    | _ => .fail 224
def appendGrown (H : St) (a : Addr) (e : TypeId) (size : Nat) (sLen cap n : Nat) (new : List Value) (b : Blk) : Did :=
  bsel (gFits a e cap (Nat.add sLen n) size b) (appendTo H a sLen cap n size new b)
    (bsel (Nat.beq a.off 0) (bsel (Nat.beq cap (Nat.mul BIG (Nat.succ a.block))) (moveGrown H a e sLen n size new b) (.fail 225)) (.fail 226))
def appendKnown (H : St) (a : Addr) (e : TypeId) (size : Nat) (sLen cap n : Nat) (new : List Value) (b : Blk) : Did :=
  bsel (Nat.ble (Nat.add sLen n) cap) (appendTo H a sLen cap n size new b)
    (osel (firstN H size sLen (.slice (some a) sLen cap)) (.fail 228) fun old => freshSlice H e (old ++ new) (Nat.add sLen n))
def appendV (H : St) (e : TypeId) (size bytes : Nat) (n : Nat) (new : List Value) : Value → Did
  | .slice none sLen cap => bsel (Nat.beq sLen 0) (bsel (Nat.beq cap 0) (freshSlice H e new n) (.fail 229)) (.fail 229)
  | .slice (some a) sLen cap => bsel (noSpot a) (bsel (Nat.ble (Nat.mul (Nat.add sLen n) (Nat.succ bytes)) 1000000000) (osel (H.tr.get a.block) (.fail 230) fun b =>
      bsel (Nat.ble cap 9223372036854775807) (appendKnown H a e size sLen cap n new b) (appendGrown H a e size sLen cap n new b)) (.fail 231)) (.fail 231)
  | _ => .fail 232
/-- nothing is appended -/
def append0 (H : St) (e : TypeId) (size : Nat) : Value → Did
  | .slice none sLen cap => bsel (Nat.ble sLen cap) (.ok (.slice none sLen cap) H) (.fail 233)
  | .slice (some a) sLen cap => bsel (Nat.ble cap 9223372036854775807) (bsel (Nat.ble sLen cap) (.ok (.slice (some a) sLen cap) H) (.fail 234))
      (osel (H.tr.get a.block) (.fail 230) fun b => bsel (gFits a e cap sLen size b) (.ok (.slice (some a) sLen cap) H) (.fail 235))
  | _ => .fail 236
def isSrc : TypeDesc → Bool
  | .slice _ | .string => true
  | _ => false
def srcT (P : Tb) (t : Option TypeId) : Bool := osel t false fun t => osel (P.ty.get t) false fun i => isSrc i.under
def isStr : Value → Bool
  | .string _ => true
  | _ => false
def append2 (P : Tb) (H : St) (ts : List TypeId) : List Value → Did
  | [sv, x] => osel (nth ts 0) (.fail 233) fun t => osel (elemTy P t) (.fail 234) fun e => osel e.2.zero (.fail 241) fun _ => bsel (srcT P (nth ts 1)) (osel (lenVal x) (.fail 236) fun n =>
      bsel (Nat.beq n 0) (append0 H e.1 e.2.size sv) (bsel (Nat.beq e.2.size 0) (.fail 237) (bsel (Nat.ble (Nat.mul n (Nat.succ e.2.bytes)) 1000000000) (osel (firstN H e.2.size n x) (.fail 238) fun new => bsel (allL oneCell new) (appendV H e.1 e.2.size e.2.bytes n new sv) (.fail 239)) (.fail 239)))) (.fail 235)
  | _ => .fail 240
def lenD (H : St) : TypeDesc → Value → Did
  | .string, .string s => .ok (.int .i64 (.ofNat s.data.toList.length)) H
  | .slice _, .slice _ n _ => .ok (.int .i64 (.ofNat n)) H
  | .map _ _, .map none => .ok (.int .i64 (.ofNat 0)) H
  | .map _ _, .map (some r) => osel (H.tr.get r) (.fail 241) fun b => match b with | .map es _ => .ok (.int .i64 (.ofNat es.length)) H | _ => .fail 242
  | _, _ => .fail 243
def len1 (P : Tb) (H : St) (ts : List TypeId) : List Value → Did
  | [x] => osel (nth ts 0) (.fail 244) fun t => osel (P.ty.get t) (.fail 245) fun i => lenD H i.under x
  | _ => .fail 247
def min2 (a b : Nat) : Nat := bsel (Nat.ble a b) a b
def copyTo (H : St) (n : Nat) (cells : List Value) : Value → Did
  | .slice none _ _ => .ok (.int .i64 (.ofNat n)) H
  | .slice (some a) _ _ => bsel (Nat.beq cells.length 0) (.ok (.int .i64 (.ofNat n)) H) (bsel (noSpot a) (osel (H.tr.get a.block) (.fail 250) fun b => match storeB H a.block a.off cells b with
      | .ok _ H => .ok (.int .i64 (.ofNat n)) H
      | _ => .fail 251) (.fail 252))
  | _ => .fail 253
def copy2 (P : Tb) (H : St) (ts : List TypeId) : List Value → Did
  | [d, x] => osel (nth ts 0) (.fail 254) fun t => osel (elemTy P t) (.fail 255) fun e => osel (lenVal d) (.fail 256) fun dl => osel (lenVal x) (.fail 257) fun xl =>
      osel (firstN H e.2.size (min2 xl dl) x) (.fail 258) fun cells => bsel (allL oneCell cells) (copyTo H (min2 xl dl) cells d) (.fail 259)
  | _ => .fail 259
def elemB (P : Tb) : Blk → Option (TypeId × TyI)
  | .cells e _ _ _ _ _ _ _ => osel (P.ty.get e) none fun i => some (e, i)
  | _ => none
def sliceData1 (P : Tb) (H : St) : Value → Did
  | .slice none _ _ => .ok (.pointer none) H
  | .slice (some a) _ cap => bsel (Nat.ble cap 9223372036854775807) (bsel (Nat.beq cap 0) (.fail 260) (.ok (.pointer (some a)) H))
      (osel (H.tr.get a.block) (.fail 260) fun b => osel (elemB P b) (.fail 260) fun e => bsel (gFits a e.1 cap 1 e.2.size b) (.ok (.pointer (some a)) H) (.fail 261))
  | _ => .fail 262
def sliceData (P : Tb) (H : St) : List Value → Did
  | [x] => sliceData1 P H x
  | _ => .fail 262
def freezeB (H : St) (b n : Nat) : Blk → Option St
  | .cells e k d cs g fz st ro => bsel ro none (some ⟨H.next, H.tr.put b (some (bsel st (.cells e k d cs g fz st true) (.cells e k d cs g (bsel (Nat.ble fz n) n fz) st ro)))⟩)
  | _ => none
def natI64 : Value → Option Nat
  | .int .i64 (.ofNat n) => some n
  | _ => none
def strDid (f : Option St) : Did → Did
  | .ok v _ => osel f (.fail 263) fun H => .ok v H
  | d => d
def ptrTo1 (P : Tb) (ts : List TypeId) (b : Blk) : Bool :=
  osel (nth ts 0) false fun t => osel (P.ty.get t) false fun i => osel (elemB P b) false fun e => bsel (Nat.beq e.2.size 1) (match i.under with | .pointer u => Nat.beq u e.1 | _ => false) false
def unsafeStrP (P : Tb) (H : St) (ts : List TypeId) (n : Nat) : Value → Did
  | .pointer none => bsel (Nat.beq n 0) (.ok (.string .empty) H) (.fail 263)
  | .pointer (some a) => bsel (Nat.beq n 0) (.ok (.string .empty) H) (bsel (noSpot a) (bsel (Nat.beq a.off 0) (bsel (Nat.ble n 1000000000) (osel (H.tr.get a.block) (.fail 265) fun b => bsel (ptrTo1 P ts b) (strDid (freezeB H a.block n b) (strOfB 0 n H b)) (.fail 266)) (.fail 266)) (.fail 266)) (.fail 266))
  | _ => .fail 267
def unsafeStr (P : Tb) (H : St) (ts : List TypeId) : List Value → Did
  | [p, n] => osel (natI64 n) (.fail 262) fun n => unsafeStrP P H ts n p
  | _ => .fail 267
/-- what only yields -/
def onlyOk : Did → Did
  | .ok v H => .ok v H
  | .fail n => .fail n
  | _ => .fail 500
def builtinD (b : Builtin) : Tb → St → List TypeId → List Value → Did → Did := match b with
  | .append => fun P H ts vs k => bsel (Nat.beq ts.length 2) (append2 P H ts vs) (.fail 269)
  | .len => fun P H ts vs k => len1 P H ts vs
  | .copy => fun P H ts vs k => copy2 P H ts vs
  | .unsafeSliceData => fun P H ts vs k => sliceData P H vs
  | .unsafeString => fun P H ts vs k => bsel (Nat.beq ts.length 2) (unsafeStr P H ts vs) (.fail 269)
  | .min => fun P H ts vs k => k
  | .max => fun P H ts vs k => k
  | _ => fun _ _ _ _ _ => .fail 268
def isPtr : TypeDesc → Bool
  | .pointer _ => true
  | _ => false
def methodOf (P : Tb) (t : TypeId) (v : Value) (name : String) (args : List Value) : Did :=
  osel (P.P.info? t) (.fail 270) fun i => osel (i.methods.find? (·.name == name)) (.fail 271) fun m => bsel m.path.isEmpty (osel m.func (.fail 272) fun fp =>
    osel (P.ty.get t) (.fail 273) fun ti => bsel (bsel (isPtr ti.under) fp.2 (not fp.2)) (osel (P.fn.get fp.1) (.fail 274) fun fn => osel fn.body (.fail 275) fun _ => .call fp.1 (v :: args)) (.fail 276)) (.fail 277)
def invokeV (P : Tb) (name : String) (args : List Value) : Value → Did
  | .iface t v => methodOf P t v name args
  | _ => .fail 278
def isRecover : Builtin → Bool
  | .recover => true
  | _ => false
def calleeD (P : Tb) (s : Lc) (L : Ls) (H : St) (ts : List TypeId) (args : List Value) (k : Did) : Callee → Did
  | .value f => osel (evO s L f) (.fail 280) (enterV P H args)
  | .invoke r name => osel (evO s L r) (.fail 281) (invokeV P name args)
  | .builtin b => bsel (isRecover b) .recover (onlyOk (builtinD b P H ts args k))
def xCall (c : Call) (P : Tb) (s : Lc) (L : Ls) (H : St) (o : Oper) : Did := osel (evL s L c.args.toList) (.fail 282) fun args => calleeD P s L H c.argTypes.toList args (execPure P s L H o) c.callee
def xDefer (c : Call) (P : Tb) (s : Lc) (L : Ls) (H : St) (o : Oper) : Did := match c.callee with
  | .value f => osel (evL s L c.args.toList) (.fail 283) fun args => osel (evO s L f) (.fail 284) fun v => deferV (enterV P H args v)
  | _ => .fail 285
def panV : Value → Did
  | .iface t v => .pan (.iface t v)
  | _ => .fail 286
def xPanic (x : Operand) (P : Tb) (s : Lc) (L : Ls) (H : St) (o : Oper) : Did := osel (evO s L x) (.fail 287) panV
def execT (op : Op) : Tb → Lc → Ls → St → Oper → Did := match op with
  | .move x => fun P s L H o => onlyOk (xMove x P s L H o)
  | .assign x => fun P s L H o => onlyOk (xMove x P s L H o)
  | .pick c a b => fun P s L H o => onlyOk (xPick c a b P s L H o)
  | .alloc t => fun P s L H o => onlyOk (xAlloc t P s L H o)
  | .box t x => fun P s L H o => onlyOk (xBox t x P s L H o)
  | .build t ps => fun P s L H o => onlyOk (xBuild t ps P s L H o)
  | .buildSlice t n ps => fun P s L H o => onlyOk (xBuildSlice t n ps P s L H o)
  | .load t x => fun P s L H o => onlyOk (xLoad t x P s L H o)
  | .store t x y => fun P s L H o => onlyOk (xStore t x y P s L H o)
  | .nilCheck x => fun P s L H o => onlyOk (xNilCheck x P s L H o)
  | .binOp op t x y _ => fun P s L H o => onlyOk (xBin op t x y P s L H o)
  | .convert a b x => fun P s L H o => onlyOk (xConvert a b x P s L H o)
  | .makeInterface t x => fun P s L H o => onlyOk (xMakeInterface t x P s L H o)
  | .makeFunc f a b => fun P s L H o => onlyOk (xMakeFunc f a b P s L H o)
  | .makeMap _ r => fun P s L H o => onlyOk (xMakeMap r P s L H o)
  | .makeSlice t l c => fun P s L H o => onlyOk (xMakeSlice t l c P s L H o)
  | .slice t x lo hi mx => fun P s L H o => onlyOk (xSlice t x lo hi mx P s L H o)
  | .fieldAddr t x f => fun P s L H o => onlyOk (xFieldAddr t x f P s L H o)
  | .field t x f => fun P s L H o => onlyOk (xField t x f P s L H o)
  | .indexAddr t x i => fun P s L H o => onlyOk (xIndexAddr t x i P s L H o)
  | .index t x i => fun P s L H o => onlyOk (xIndex t x i P s L H o)
  | .lookup t m k ok => fun P s L H o => onlyOk (xLookup t m k ok P s L H o)
  | .mapUpdate t m k v => fun P s L H o => onlyOk (xMapUpdate t m k v P s L H o)
  | .insert t m k v => fun P s L H o => onlyOk (xMapUpdate t m k v P s L H o)
  | .extract x i => fun P s L H o => onlyOk (xExtract x i P s L H o)
  | .typeAssert x _ a ok => fun P s L H o => onlyOk (xTypeAssert x a ok P s L H o)
  | .call c => xCall c
  | .defer c => xDefer c
  | .panic x => xPanic x
  | .select _ _ => fun _ _ _ _ _ => .fail 49
  | _ => fun P s L H o => onlyOk (execPure P s L H o)

/-! ### regions -/
def undefV : Value := .tuple #[]
def putS (d : Nat) (v : Value) (s : Lc) : Lc := ⟨s.ng, s.mask, s.N, s.T.put d (some v), s.D⟩
/-- what follows with a value in a temporary -/
def putThen (k : Ls → Lc → Got) (L : Ls) (s : Lc) (v : Value) : Option Tmp → Got
  | none => k L s
  | some d => bsel (Nat.ble (Nat.succ d) s.N) (bsel (bitAt s.mask d) (k L (putS d v s)) (k ((d, v) :: L) s)) (.fail 300)
def boolV : Value → Option Bool
  | .bool b => some b
  | _ => none
/-- is the operation wanted? -/
def wantG (all : Array Oper) (s : Lc) (L : Ls) : Option (Nat × Bool) → Option Bool
  | none => some true
  | some g => osel (nth all.toList g.1) none fun o => osel o.dst none fun d => osel (getT s L d) none fun v => match v with
    | .bool b => some (Bool.rec (not g.2) g.2 b)
    | .tuple _ => some false
    | _ => none
def afterCall (k : Value → St → Got) (s : Lc) : Got → Got
  | .val v H => k v H
  | .pan v H => .code (.panic v) s H
  | .fail w => .fail w
  | _ => .fail 301
def afterDid (ih : Job → Got) (all : Array Oper) (r : List Oper) (d : Option Tmp) (L : Ls) (s : Lc) (H : St) : Did → Got
  | .ok v H => putThen (fun L s => ih (.ops r all L s H)) L s v d
  | .call f args => afterCall (fun v H => putThen (fun L s => ih (.ops r all L s H)) L s v d) s (ih (.call f args H))
  | .pan v => .code (.panic v) s H
  | .defer f args => putThen (fun L s => ih (.ops r all L s H)) L ⟨s.ng, s.mask, s.N, s.T, (f, args) :: s.D⟩ undefV d
  | .recover => .fail 302
  | .fail w => .fail w
def opsStep (P : Tb) (ih : Job → Got) (all : Array Oper) (L : Ls) (s : Lc) (H : St) : List Oper → Got
  | [] => .code .normal s H
  | o :: r => osel (wantG all s L o.guard) (.fail 303) fun b => bsel b (afterDid ih all r o.dst L s H (execT o.op P s L H o)) (putThen (fun L s => ih (.ops r all L s H)) L s undefV o.dst)

/-! ### code -/
def thenCode (ih : Job → Got) (c : Code) : Got → Got
  | .code e s H => match e with
    | .normal => ih (.code c s H)
    | e => .code e s H
  | g => g
def condCode (ih : Job → Got) (a b : Code) (s : Lc) (H : St) : Value → Got
  | .bool t => bsel t (ih (.code a s H)) (ih (.code b s H))
  | _ => .fail 310
def blockOut (id : Nat) : Got → Got
  | .code e s H => match e with
    | .exit i => bsel (Nat.beq i id) (.code .normal s H) (.code (.exit i) s H)
    | e => .code e s H
  | g => g
def scopeOut : Got → Got
  | .code e s H => match e with
    | .goto l => .fail 311
    | e => .code e s H
  | g => g
def stepCode (ih : Job → Got) (s : Lc) (H : St) : Code → Got
  | .skip => .code .normal s H
  | .label _ => .code .normal s H
  | .seq a b => thenCode ih b (ih (.code a s H))
  | .cond c a b => osel (evO s [] c) (.fail 312) (condCode ih a b s H)
  | .block id b => blockOut id (ih (.code b s H))
  | .loop b => thenCode ih (.loop b) (ih (.code b s H))
  | .exit id => .code (.exit id) s H
  | .scope b => scopeOut (ih (.code b s H))
  | .goto l => .code (.goto l) s H
  | .ret => .code .ret s H
  | .region _ ops draw => bsel draw (ih (.dops ops.toList ops [] [H] [] s H)) (ih (.ops ops.toList ops [] s H))
  | _ => .fail 313

/-! ### functions -/
def resOne (P : Tb) (s : Lc) (H : St) : ResultVar → Option Value
  | .tmp t => getT s [] t
  | .cell a t => osel (getT s [] a) none fun v => match v with
    | .pointer (some a) => match loadAddr P H t a with
      | .ok v _ => some v
      | _ => none
    | _ => none
def resV (l : List Value) : Value := match l with
  | [v] => v
  | l => .tuple l.toArray
def finish (P : Tb) (fn : Func) (s : Lc) (H : St) : Option Value → Got
  | none => osel (mapO (resOne P s H) fn.results.toList) (.fail 320) fun l => .val (resV l) H
  | some v => .pan v H
/-- the deferred calls, one by one -/
def leaveD (ih : Job → Got) (fin : St → Option Value → Got) : List (FuncId × List Value) → St → Option Value → Got
  | [], H, p => fin H p
  | d :: r, H, p => match ih (.callD d.1 d.2 H p) with
    | .valD H p => leaveD ih fin r H p
    | .fail w => .fail w
    | _ => .fail 321
def leaveG (P : Tb) (ih : Job → Got) (fn : Func) : Got → Got
  | .code e s H => match e with
    | .normal => leaveD ih (finish P fn s) s.D H none
    | .ret => leaveD ih (finish P fn s) s.D H none
    | .panic v => leaveD ih (finish P fn s) s.D H (some v)
    | _ => .fail 322
  | .fail w => .fail w
  | _ => .fail 323
def lc0 (P : Tb) (f : FuncId) (fn : Func) (args : List Value) : Option Lc :=
  osel (P.hint.get f) none fun m => bsel (Nat.ble args.length fn.ntmps) (some ⟨P.nglob, m, fn.ntmps, BT.putL args 0 (BT.mk (depthOf fn.ntmps) 0), []⟩) none
def enterF (P : Tb) (ih : Job → Got) (f : FuncId) (args : List Value) (H : St) (fn : Func) : Got :=
  osel fn.body (.fail 324) fun c => osel (lc0 P f fn args) (.fail 325) fun s => leaveG P ih fn (ih (.code c s H))

/-! ### a deferred call, which may recover -/
def thenS (ih : Job → Got) (c : Code) : Got → Got
  | .codeS e s H p => match e with
    | .normal => ih (.codeS c s H p)
    | e => .codeS e s H p
  | g => g
def liftS (p : Option Value) : Got → Got
  | .code e s H => .codeS e s H p
  | .fail w => .fail w
  | _ => .fail 330
def condS (ih : Job → Got) (a b : Code) (s : Lc) (H : St) (p : Option Value) : Value → Got
  | .bool t => bsel t (ih (.codeS a s H p)) (ih (.codeS b s H p))
  | _ => .fail 331
def stepS (ih : Job → Got) (s : Lc) (H : St) (p : Option Value) : Code → Got
  | .seq a b => thenS ih b (ih (.codeS a s H p))
  | .cond c a b => osel (evO s [] c) (.fail 332) (condS ih a b s H p)
  | .region _ ops draw => bsel draw (.fail 333) (ih (.opsS ops.toList ops [] s H p))
  | c => liftS p (ih (.code c s H))
def afterS (ih : Job → Got) (all : Array Oper) (r : List Oper) (d : Option Tmp) (L : Ls) (s : Lc) (H : St) (p : Option Value) : Did → Got
  | .ok v H => putThen (fun L s => ih (.opsS r all L s H p)) L s v d
  | .call f args => liftS p (afterCall (fun v H => .fail 334) s (ih (.call f args H)))
  | .recover => putThen (fun L s => ih (.opsS r all L s H none)) L s (osel p .nilIface fun v => v) d
  | _ => .fail 335
def afterSC (ih : Job → Got) (all : Array Oper) (r : List Oper) (d : Option Tmp) (L : Ls) (s : Lc) (p : Option Value) : Got → Got
  | .val v H => putThen (fun L s => ih (.opsS r all L s H p)) L s v d
  | .fail w => .fail w
  | _ => .fail 336
def doS (ih : Job → Got) (all : Array Oper) (r : List Oper) (d : Option Tmp) (L : Ls) (s : Lc) (H : St) (p : Option Value) : Did → Got
  | .ok v H => putThen (fun L s => ih (.opsS r all L s H p)) L s v d
  | .call f args => afterSC ih all r d L s p (ih (.call f args H))
  | .recover => putThen (fun L s => ih (.opsS r all L s H none)) L s (osel p .nilIface fun v => v) d
  | .fail w => .fail w
  | _ => .fail 337
def opsSStep (P : Tb) (ih : Job → Got) (all : Array Oper) (L : Ls) (s : Lc) (H : St) (p : Option Value) : List Oper → Got
  | [] => .codeS .normal s H p
  | o :: r => osel (wantG all s L o.guard) (.fail 338) fun b => bsel b (doS ih all r o.dst L s H p (execT o.op P s L H o)) (putThen (fun L s => ih (.opsS r all L s H p)) L s undefV o.dst)
def leaveS (P : Tb) (fn : Func) : Got → Got
  | .codeS e s H p => match s.D with
    | [] => match e with
      | .normal => osel (mapO (resOne P s H) fn.results.toList) (.fail 340) fun _ => .valD H p
      | .ret => osel (mapO (resOne P s H) fn.results.toList) (.fail 341) fun _ => .valD H p
      | _ => .fail 342
    | _ => .fail 343
  | .fail w => .fail w
  | _ => .fail 344
def enterD (P : Tb) (ih : Job → Got) (f : FuncId) (args : List Value) (H : St) (p : Option Value) (fn : Func) : Got :=
  osel fn.body (.fail 345) fun c => osel (lc0 P f fn args) (.fail 346) fun s => leaveS P fn (ih (.codeS c s H p))

/-! ### regions whose order is drawn: gone through in their order; every other order comes to the same if (1) what acts stands in one row, (2) what only looks sees the same wherever it may stand -/
def bindsE (e : Edge) : Bool := match e.ground with
  | .textOnly _ | .gcOnly _ => false
  | _ => true
/-- the numbers of all that come ahead, as bits; the edges lead back -/
def edgeBits (pm : List Nat) (i : Nat) : List Edge → Option Nat
  | [] => some 0
  | e :: r => osel (edgeBits pm i r) none fun m => bsel (bindsE e) (bsel (Nat.ble (Nat.succ e.on) i) (osel (nth pm e.on) none fun q => some (Nat.lor m (Nat.lor q (Nat.shiftLeft 1 e.on)))) none) (some m)
def dstBit (t : Nat) : List Oper → Nat → Nat
  | [], _ => 0
  | o :: r, i => Nat.lor (osel o.dst 0 fun d => bsel (Nat.beq d t) (Nat.shiftLeft 1 i) 0) (dstBit t r (Nat.succ i))
def readsOf (x : Operand) : Option Nat := match x with | .tmp t => some t | _ => none
def subBits (a b : Nat) : Bool := Nat.beq (Nat.land a b) a
def edgeTo (i : Nat) : List Edge → Bool
  | [] => false
  | e :: r => bsel (bsel (bindsE e) (Nat.beq e.on i) false) true (edgeTo i r)
/-- whoever writes it comes ahead, or behind, or is this one itself -/
def lateOk (m i t : Nat) : List Oper → Nat → Bool
  | [], _ => true
  | o :: r, j => bsel (bsel (osel o.dst false fun d => Nat.beq d t) (bsel (bitAt m j) true (bsel (Nat.beq j i) true (edgeTo i o.after.toList))) true) (lateOk m i t r (Nat.succ j)) false
def readsOk (all : List Oper) (m i : Nat) : List Operand → Bool
  | [] => true
  | x :: r => bsel (osel (readsOf x) true fun t => bsel (subBits (dstBit t all 0) m) true (lateOk m i t all 0)) (readsOk all m i r) false
/-- whoever writes it comes ahead -/
def readsS (all : List Oper) (m : Nat) : List Operand → Bool
  | [] => true
  | x :: r => bsel (osel (readsOf x) true fun t => subBits (dstBit t all 0) m) (readsS all m r) false
def guardOk (m : Nat) : Option (Nat × Bool) → Bool
  | none => true
  | some g => bitAt m g.1
/-- of each operation what comes ahead of it; only where all that it reads comes ahead of it -/
def predsL (all : List Oper) : List Oper → List Nat → Nat → Option (List Nat)
  | [], pm, _ => some pm
  | o :: r, pm, i => osel (edgeBits pm i o.after.toList) none fun m => bsel (readsOk all m i o.op.operands.toList) (bsel (guardOk m o.guard) (predsL all r (pm ++ [m]) (Nat.succ i)) none) none
def dstsApart : List Oper → Bool
  | [] => true
  | o :: r => bsel (osel o.dst true fun d => Nat.beq (dstBit d r 0) 0) (dstsApart r) false
/-- what only makes a block of noughts may stand anywhere -/
def floatO (P : Tb) (o : Oper) : Bool := match o.op with
  | .alloc t => osel (P.ty.get t) false fun i => osel i.zero false plainL
  | .makeSlice t _ _ => osel (elemTy P t) false fun e => osel e.2.zero false plainL
  | _ => false
/-- what acts stands in one row: each comes behind all those ahead of it -/
def rowOk (P : Tb) : List Rec → List Nat → Nat → Nat → Bool
  | [], _, _, _ => true
  | c :: r, pm, i, acts => bsel c.act (bsel (bsel (subBits acts (pm.headD 0)) true (floatO P c.o)) (rowOk P r pm.tail (Nat.succ i) (Nat.lor acts (Nat.shiftLeft 1 i))) false) (rowOk P r pm.tail (Nat.succ i) acts)
def actsOf : List Rec → Nat → List Nat
  | [], _ => []
  | c :: r, i => bsel c.act (i :: actsOf r (Nat.succ i)) (actsOf r (Nat.succ i))
/-- does it look at the heap? -/
def looks (o : Oper) : Bool := match o.op with
  | .load _ _ | .lookup _ _ _ _ | .convert _ _ _ | .slice _ _ _ _ _ => true
  | .call _ => true
  | _ => false
mutual
def sameV : Value → Value → Bool
  | .bool a, .bool b => Bool.rec (not b) b a
  | .int j a, .int k b => bsel (kindEq j k) (intEq a b) false
  | .string a, .string b => bytesEq a.data.toList b.data.toList
  | .pointer none, .pointer none => true
  | .pointer (some a), .pointer (some b) => bsel (noSpot a) (bsel (noSpot b) (bsel (Nat.beq a.block b.block) (Nat.beq a.off b.off) false) false) false
  | .slice none n c, .slice none m d => bsel (Nat.beq n m) (Nat.beq c d) false
  | .slice (some a) n c, .slice (some b) m d => bsel (noSpot a) (bsel (noSpot b) (bsel (Nat.beq a.block b.block) (bsel (Nat.beq a.off b.off) (bsel (Nat.beq n m) (Nat.beq c d) false) false) false) false) false
  | .map none, .map none => true
  | .map (some a), .map (some b) => Nat.beq a b
  | .nilFunc, .nilFunc => true
  | .nilIface, .nilIface => true
  | .iface t a, .iface u b => bsel (Nat.beq t u) (sameV a b) false
  | .agg ⟨a⟩, .agg ⟨b⟩ => sameL a b
  | .tuple ⟨a⟩, .tuple ⟨b⟩ => sameL a b
  | .func (.func f) ⟨a⟩ ⟨c⟩, .func (.func g) ⟨b⟩ ⟨d⟩ => bsel (Nat.beq f g) (bsel (sameL a b) (sameL c d) false) false
  | .float .f64 a, .float .f64 b => Nat.beq a b
  | _, _ => false
def sameL : List Value → List Value → Bool
  | [], [] => true
  | a :: r, b :: q => bsel (sameV a b) (sameL r q) false
  | _, _ => false
end
/-- all that is read leads to what was there -/
def bndsO (s : Lc) (L : Ls) (H : St) (o : Oper) : Bool := allL (bndO H.next s L) o.op.operands.toList
def didV (v : Value) (H : St) : Did → Bool
  | .ok u H' => bsel (sameV v u) (Nat.beq H.next H'.next) false
  | _ => false
/-- the same value in each of these stages -/
def sameAt (P : Tb) (L : Ls) (s : Lc) (o : Oper) (v : Value) : List St → Bool
  | [] => true
  | H :: r => bsel (bsel (bndsO s L H o) (didV v H (execT o.op P s L H o)) false) (sameAt P L s o v r) false
/-- of the stages (hs: S0 .. Sk; acts: the k that act) those at which an operation with these ahead of it may stand -/
def stagesOf (m i : Nat) (pm : List Nat) : List Nat → List St → List St
  | a :: r, H :: hs => bsel (bitAt m a) (stagesOf m i pm r hs) (H :: bsel (osel (nth pm a) false fun q => bitAt q i) [] (stagesOf m i pm r hs))
  | [], H :: _ => [H]
  | _, [] => []
def quietOk (P : Tb) (all : List Oper) (L : Ls) (s : Lc) (pm : List Nat) (acts : List Nat) (hs : List St) : List Rec → Nat → Bool
  | [], _ => true
  | c :: r, i => bsel (bsel c.act true (bsel c.skip true (bsel (looks c.o) (bsel (readsS all (pm.getD i 0) c.o.op.operands.toList) (sameAt P L s c.o c.v (stagesOf (pm.getD i 0) i pm acts hs)) false) true))) (quietOk P all L s pm acts hs r (Nat.succ i)) false
/-- what was done: it looked alone, if the heap is as it was by its count; else it acted -/
def actsO (o : Oper) : Bool := match o.op with
  | .alloc _ | .box _ _ | .buildSlice _ _ _ | .store _ _ _ | .makeMap _ _ | .makeSlice _ _ _ | .mapUpdate _ _ _ _ | .insert _ _ _ _ | .defer _ | .panic _ => true
  | .convert _ _ _ => false
  | .call c => match c.callee with
    | .builtin .len | .builtin .min | .builtin .max => false
    | _ => true
  | _ => false
def putD (k : Ls → Lc → Got) (L : Ls) (s : Lc) (v : Value) (d : Option Tmp) : Got := putThen k L s v d
def afterDD (ih : Job → Got) (all : Array Oper) (o : Oper) (r : List Oper) (rs : List Rec) (hs : List St) (L : Ls) (s : Lc) (H : St) : Did → Got
  | .ok v H' => bsel (actsO o) (bsel (bsel (Nat.ble H.next H'.next) (bndsO s L H o) false) (putThen (fun L s => ih (.dops r all (⟨o, v, true, false⟩ :: rs) (H' :: hs) L s H')) L s v o.dst) (.fail 348))
      (bsel (Nat.beq H.next H'.next) (putThen (fun L s => ih (.dops r all (⟨o, v, false, false⟩ :: rs) hs L s H)) L s v o.dst) (.fail 350))
  | .call f args => match ih (.call f args H) with
    | .val v H' => bsel (bsel (Nat.ble H.next H'.next) (bndsO s L H o) false) (putThen (fun L s => ih (.dops r all (⟨o, v, true, false⟩ :: rs) (H' :: hs) L s H')) L s v o.dst) (.fail 349)
    | .pan v H' => .fail 351
    | .fail w => .fail w
    | _ => .fail 352
  | .fail w => .fail w
  | _ => .fail 353
def dopsStep (P : Tb) (ih : Job → Got) (all : Array Oper) (rs : List Rec) (hs : List St) (L : Ls) (s : Lc) (H : St) : List Oper → Got
  | [] => osel (predsL all.toList all.toList [] 0) (.fail 354) fun pm => bsel (dstsApart all.toList) (bsel (rowOk P rs.reverse pm 0 0)
      (bsel (bsel (isNil hs.tail) true (quietOk P all.toList L s pm (actsOf rs.reverse 0) hs.reverse rs.reverse 0)) (.code .normal s H) (.fail 355)) (.fail 356)) (.fail 357)
  | o :: r => osel (wantG all s L o.guard) (.fail 358) fun b => bsel b (afterDD ih all o r rs hs L s H (execT o.op P s L H o)) (putThen (fun L s => ih (.dops r all (⟨o, undefV, false, true⟩ :: rs) hs L s H)) L s undefV o.dst)

/-! ### calls that were reckoned before -/
def boolEq (a b : Bool) : Bool := bsel a b (not b)
def sameO : Option Value → Option Value → Bool
  | none, none => true
  | some a, some b => sameV a b
  | _, _ => false
def sameT : BT Value → BT Value → Bool
  | .leaf k v, .leaf k' v' => bsel (Nat.beq k k') (sameO v v') false
  | .node m l r, .node m' l' r' => bsel (Nat.beq m m') (bsel (sameT l l') (sameT r r') false) false
  | _, _ => false
def blkOf (m : MBlk) : Blk := .cells m.elem m.n m.d (treeOf m.vs m.d) m.grown m.fz m.st m.ro
def sameB (m : MBlk) : Blk → Bool
  | .cells e n d cs g fz st ro => bsel (Nat.beq m.elem e) (bsel (Nat.beq m.n n) (bsel (Nat.beq m.d d) (bsel (boolEq m.grown g) (bsel (Nat.beq m.fz fz) (bsel (boolEq m.st st) (bsel (boolEq m.ro ro) (sameT (treeOf m.vs m.d) cs) false) false) false) false) false) false) false
  | _ => false
def putAll : List (Nat × MBlk) → BT Blk → BT Blk
  | [], t => t
  | p :: r, t => putAll r (t.put p.1 (some (blkOf p.2)))
def dropAll : List (Nat × MBlk) → BT Blk → BT Blk
  | [], t => t
  | p :: r, t => dropAll r (t.put p.1 none)
def allIn (l : List (Nat × MBlk)) (t : BT Blk) : Bool := allL (fun p => osel (t.get p.1) false (sameB p.2)) l
def memoFits (H : St) (f : FuncId) (args : List Value) (m : Memo) : Bool := bsel (Nat.beq f m.f) (bsel (sameL args m.args) (allIn m.tin H.tr) false) false
def memoDo (H : St) (m : Memo) : Got := .val m.v ⟨m.next, putAll m.tout (dropAll m.tin H.tr)⟩
/-! ### the whole -/
def stepF0 (P : Tb) (ih : Job → Got) (f : FuncId) (args : List Value) (H : St) : Got := osel (P.fn.get f) (.fail 360) (enterF P ih f args H)
def stepF (P : Tb) (ih : Job → Got) (f : FuncId) (args : List Value) (H : St) : Got :=
  osel (P.memo.get H.next) (stepF0 P ih f args H) fun m => bsel (memoFits H f args m) (memoDo H m) (stepF0 P ih f args H)
def step (P : Tb) (ih : Job → Got) : Job → Got
  | .code c s H => stepCode ih s H c
  | .ops l all L s H => opsStep P ih all L s H l
  | .dops l all rs hs L s H => dopsStep P ih all rs hs L s H l
  | .call f args H => stepF P ih f args H
  | .codeS c s H p => stepS ih s H p c
  | .opsS l all L s H p => opsSStep P ih all L s H p l
  | .callD f args H p => osel (P.fn.get f) (.fail 361) (enterD P ih f args H p)
def run (P : Tb) (n : Nat) : Job → Got := Nat.rec (fun _ => .fail 999) (fun _ ih => step P ih) n
end
end Go.Proofs.YthgjjogleklmcaaGreatDoor.Ev
