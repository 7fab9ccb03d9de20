/- J -/
import Derived.Test.YtjgggmjjikopeaaGreatDoorJ7
import Derived.Test.YtjgggmjjikopeaaGreatDoorJ8
set_option linter.unusedVariables false
set_option maxRecDepth 100000
set_option maxHeartbeats 6400000
open Go.RowKit
namespace Go.Proofs.YtjgggmjjikopeaaGreatDoor
inductive St where
 | mk (kind : Int) (nm : List UInt8) (e : Ex) (body els : List St)
def noE : Ex := .mk 0 0 0 [] []
section
variable (prX : Ex -> Option (List UInt8)) (isName : List UInt8 -> Bool) (isNo : Ex -> Bool)
variable {prX isName isNo}
end
section
variable {prX : Ex -> Option (List UInt8)} {isName : List UInt8 -> Bool} {isNo : Ex -> Bool}
end
structure Vr where
 nm : List UInt8
 t : Nat
 b : Nat
structure Th where
 nm : List UInt8
 locals : List Vr
 body : List St
structure Pg where
 shared : List Vr
 mutexes : List (List UInt8)
 threads : List Th
section
variable (prX : Ex -> Option (List UInt8)) (isName : List UInt8 -> Bool) (isNo : Ex -> Bool) (vtx : Nat -> Nat -> Option (List UInt8))
variable {prX isName isNo vtx}
end
section
open Go Go.RowKit
section
variable {P : Program} {ops : Array Oper} {Q : Exit -> Act -> World -> Prop} {md : Region.Mode} {S : World -> Prop} {St : List Nat}
def Hold (S : World -> Prop) (St : List Nat) (listed : Array Bool) (w : World) : Prop := (∀ s ∈ St, listed.getD s true = false) -> S w
def Yl (P : Program) (md : Region.Mode) (ops : Array Oper) (Q : Exit -> Act -> World -> Prop) (S : World -> Prop) (St : List Nat) : Nat -> Array Bool -> Act -> World -> Prop
 | 0, listed, a, w => Region.ready md ops listed = [] /\ Q .normal a w
 | fuel + 1, listed, a, w =>
  (Region.ready md ops listed = [] -> Q .normal a w) /\
  ∀ i ∈ Region.ready md ops listed, wpOp P ops Q i (fun a' w' => Hold S St (listed.setIfInBounds i true) w' /\ Yl P md ops Q S St fuel (listed.setIfInBounds i true) a' w') a w
theorem J7 : ∀ (fuel : Nat) (listed : Array Bool) (a : Act) (w : World), Yl P md ops Q S St fuel listed a w -> wpAny P md ops Q fuel listed a w
 | 0, _, _, _, h => h
 | fuel + 1, _, _, _, h => ⟨h.1, fun i hi => wpOp_mono (fun a' w' h' => J7 fuel _ a' w' h'.2) (h.2 i hi)⟩
theorem zc8 {i j : Nat} {listed : Array Bool} {w : World} (hi : i ∉ St) (h : Hold S St ((listed.setIfInBounds i true).setIfInBounds j true) w) : Hold S St (listed.setIfInBounds j true) w := fun hs => h fun s hm => by
 have hsi : i ≠ s := fun e => hi (e ▸ hm)
 have := hs s hm
 by_cases hj : j = s
 ·subst hj
  rw [Array.setIfInBounds_comm _ _ hsi, getD_set_ne true hsi]
  exact this
 ·rw [getD_set_ne true hj] at this
  rw [getD_set_ne true hj, getD_set_ne true hsi]
  exact this
theorem VD {i : Nat} {oi : Oper} {v : Value} (hi : ops[i]? = some oi) (hsel : ∀ (j : Nat) (o : Oper) cs b, ops[j]? = some o -> o.op ≠ .select cs b)
  (hQ : ∀ c a w, Q (.panic c) (a.put oi.dst v) w -> Q (.panic c) a w) (hiS : i ∉ St) (Inv : Array Bool -> Prop) (S0 : World -> Prop)
  (hInv : ∀ listed j, Inv listed -> listed.getD i true = false -> j ∈ Region.ready md ops listed -> j ≠ i -> Inv (listed.setIfInBounds j true))
  (hY : ∀ listed w, Inv listed -> Hold S St listed w -> S0 w) :
  ∀ (fuel : Nat) (listed : Array Bool) (a : Act) (w : World),
   (∀ j oj, ops[j]? = some oj -> j ≠ i -> listed.getD j true = false -> (∀ e ∈ oj.after, Region.binds md e = true -> e.on ≠ i) -> oi.apart ops oj = true) ->
   i ∈ Region.ready md ops listed -> Inv listed -> YieldsIf P ops S0 oi v a -> Hold S St listed w ->
   Hold S St (listed.setIfInBounds i true) w -> Yl P md ops Q S St fuel (listed.setIfInBounds i true) (a.put oi.dst v) w -> Yl P md ops Q S St (fuel + 1) listed a w := by
 intro fuel
 induction fuel with
 | zero =>
  intro listed a w _ hr hv hy hS hSi H
  refine ⟨fun h => (by rw [h] at hr; cases hr), fun j hj => ?_⟩
  by_cases hji : j = i
  ·subst hji; exact hy.wpOp hi (hY _ _ hv hS) ⟨hSi, H⟩
  ·have := ready_mono hj hji
   rw [H.1] at this
   cases this
 | succ fuel ih =>
  intro listed a w hfree hr hv hy hS hSi H
  refine ⟨fun h => (by rw [h] at hr; cases hr), fun j hj => ?_⟩
  by_cases hji : j = i
  ·subst hji; exact hy.wpOp hi (hY _ _ hv hS) ⟨hSi, H⟩
  ·have h1 := H.2 j (ready_mono hj hji)
   obtain ⟨hjun, oj, hoj, hall⟩ := mem_ready.1 hj
   have hnot : ∀ e ∈ oj.after, Region.binds md e = true -> e.on ≠ i := fun e he hb heq => by
    have h1 := hall e he hb
    have h0 := (mem_ready.1 hr).1
    rw [heq] at h1
    rcases Nat.lt_or_ge i listed.size with h' | h'
    ·simp [h'] at h0 h1; rw [h0] at h1; cases h1
    ·simp [Array.getElem?_eq_none h'] at h1
   have h2 := wpOp_putIf hoj (hfree j oj hoj hji hjun hnot) (fun cs b => hsel i oi cs b hi) (fun cs b => hsel j oj cs b hoj) hQ hy h1
   have hfree' : ∀ k ok, ops[k]? = some ok -> k ≠ i -> (listed.setIfInBounds j true).getD k true = false ->
     (∀ e ∈ ok.after, Region.binds md e = true -> e.on ≠ i) -> oi.apart ops ok = true := fun k ok hk hki hun hno => by
    refine hfree k ok hk hki ?_ hno
    by_cases hjk : j = k
    ·subst hjk; exact hjun
    ·rw [getD_set_ne true hjk] at hun; exact hun
   refine wpOp_mono (fun a' w' h3 => ?_) h2
   have hh := zc8 hiS h3.2.1
   refine ⟨hh, ih (listed.setIfInBounds j true) a' w' hfree' (ready_mono hr (Ne.symm hji)) (hInv _ _ hv (mem_ready.1 hr).1 hj hji) h3.1 hh ?_ ?_⟩
   ·rw [Array.setIfInBounds_comm _ _ hji]
    exact h3.2.1
   ·rw [Array.setIfInBounds_comm _ _ hji]
    exact h3.2.2
theorem zS {i : Nat} {oi : Oper} {v : Value} {fuel : Nat} {listed : Array Bool} {a : Act} {w : World} (hi : ops[i]? = some oi)
  (hs : Region.noSelect ops = true) (hf : Region.free md ops listed i = true) (hr : (Region.ready md ops listed).contains i = true) (hiS : St.contains i = false)
  (hQ : ∀ c a w, Q (.panic c) (a.put oi.dst v) w -> Q (.panic c) a w) (hy : YieldsIf P ops (fun _ => True) oi v a) (hS : Hold S St listed w)
  (h : Hold S St (listed.setIfInBounds i true) w -> Yl P md ops Q S St fuel (listed.setIfInBounds i true) (a.put oi.dst v) w) : Yl P md ops Q S St (fuel + 1) listed a w := by
 have hn : i ∉ St := fun hm => by rw [List.contains_iff_mem.2 hm] at hiS; cases hiS
 have h2 : Hold S St (listed.setIfInBounds i true) w := fun q => hS fun s hm => by have := q s hm; rwa [getD_set_ne true (show i ≠ s from fun e => hn (e ▸ hm))] at this
 exact VD hi (Region.noSelect_spec hs) hQ hn (fun _ => True) (fun _ => True) (fun _ _ _ _ _ _ => trivial) (fun _ _ _ _ => trivial) fuel listed a w (Region.free_spec hi hf) (by simpa using hr) trivial hy hS h2 (h h2)
theorem ZG {i : Nat} {oi : Oper} {v : Value} {fuel : Nat} {listed : Array Bool} {a : Act} {w : World} (Wt : List Nat) (hi : ops[i]? = some oi)
  (hs : Region.noSelect ops = true) (hf : Region.free md ops listed i = true) (hr : (Region.ready md ops listed).contains i = true) (hiS : St.contains i = false)
  (hW : (Wt.all fun j => ((ops[j]?).map fun o => o.after.any fun e => Region.binds md e && (e.on == i || Wt.contains e.on)) == some true) = true) (hSW : (St.all fun j => Wt.contains j) = true) (hun : (Wt.all fun j => listed.getD j true == false) = true)
  (hQ : ∀ c a w, Q (.panic c) (a.put oi.dst v) w -> Q (.panic c) a w) (hy : YieldsIf P ops S oi v a) (hS : Hold S St listed w)
  (h : Hold S St (listed.setIfInBounds i true) w -> Yl P md ops Q S St fuel (listed.setIfInBounds i true) (a.put oi.dst v) w) : Yl P md ops Q S St (fuel + 1) listed a w := by
 have hn : i ∉ St := fun hm => by rw [List.contains_iff_mem.2 hm] at hiS; cases hiS
 have h2 : Hold S St (listed.setIfInBounds i true) w := fun q => hS fun s hm => by have := q s hm; rwa [getD_set_ne true (show i ≠ s from fun e => hn (e ▸ hm))] at this
 refine VD hi (Region.noSelect_spec hs) hQ hn (fun l => ∀ j ∈ Wt, l.getD j true = false) S ?_ ?_ fuel listed a w (Region.free_spec hi hf) (by simpa using hr) ?_ hy hS h2 (h h2)
 ·intro l j hl hil hj hji k hk
  by_cases hjk : j = k
  ·subst hjk
   exfalso
   have h1 := List.all_eq_true.1 hW j hk
   rw [beq_iff_eq] at h1
   obtain ⟨o, ho, h3⟩ := Option.map_eq_some_iff.1 h1
   obtain ⟨e, he, h4⟩ := Array.any_eq_true'.1 h3
   rw [yX, Bool.or_eq_true] at h4
   obtain ⟨hjun, oj, hoj, hall⟩ := mem_ready.1 hj
   rw [ho] at hoj
   cases hoj
   have h5 := hall e he h4.1
   have h6 : l.getD e.on true = false := by
    rcases h4.2 with q | q
    ·rw [beq_iff_eq] at q; rw [q]; exact hil
    ·exact hl _ (List.contains_iff_mem.1 q)
   rcases Nat.lt_or_ge e.on l.size with h' | h'
   ·simp [h'] at h5 h6; rw [h6] at h5; cases h5
   ·simp [Array.getElem?_eq_none h'] at h5
  ·rw [getD_set_ne true hjk]; exact hl k hk
 ·intro l w' hl hh
  exact hh fun s hm => hl s (List.contains_iff_mem.1 (List.all_eq_true.1 hSW s hm))
 ·intro j hj
  have := List.all_eq_true.1 hun j hj
  rwa [beq_iff_eq] at this
def AllReadyS (P : Program) (md : Region.Mode) (ops : Array Oper) (Q : Exit -> Act -> World -> Prop) (S : World -> Prop) (St : List Nat) (fuel : Nat) (listed : Array Bool) (a : Act) (w : World) (rs : List Nat) : Prop :=
 ∀ i ∈ rs, wpOp P ops Q i (fun a' w' => Hold S St (listed.setIfInBounds i true) w' /\ Yl P md ops Q S St fuel (listed.setIfInBounds i true) a' w') a w
theorem AllReadyS.nil {fuel : Nat} {listed : Array Bool} {a : Act} {w : World} : AllReadyS P md ops Q S St fuel listed a w [] := fun _ h => by cases h
theorem AllReadyS.cons {fuel : Nat} {listed : Array Bool} {a : Act} {w : World} {i : Nat} {o : Oper} {rs : List Nat} (ho : ops[i]? = some o)
  (h : ∀ K' : Act -> World -> Prop, Shut (∀ a w, Hold S St (listed.setIfInBounds i true) w -> (Hold S St (listed.setIfInBounds i true) w -> Yl P md ops Q S St fuel (listed.setIfInBounds i true) a w) -> K' a w) -> if Region.wanted o (yielded ops a.tmps) = true then Oper.wp P o a w K' Q else K' (a.put o.dst undef) w)
  (hs : AllReadyS P md ops Q S St fuel listed a w rs) : AllReadyS P md ops Q S St fuel listed a w (i :: rs) := fun j hj => by
 rcases List.mem_cons.1 hj with rfl | hj
 ·exact wpOp_step ho (fun K' hK => h K' (fun a w hS hW => hK a w ⟨hS, hW hS⟩))
 ·exact hs j hj
theorem zE {rs : List Nat} {fuel : Nat} {listed : Array Bool} {a : Act} {w : World} (hr : Region.ready md ops listed = rs) (hne : rs ≠ [])
  (h : AllReadyS P md ops Q S St fuel listed a w rs) : Yl P md ops Q S St (fuel + 1) listed a w := ⟨fun h0 => absurd (hr ▸ h0) hne, hr ▸ h⟩
theorem Z2 {listed : Array Bool} {a : Act} {w : World} (hr : Region.ready md ops listed = []) (h : Q .normal a w) :
  ∀ fuel, Yl P md ops Q S St fuel listed a w
 | 0 => ⟨hr, h⟩
 | _ + 1 => ⟨fun _ => h, by rw [hr]; simp⟩
theorem Z1 {id : Nat} {a : Act} {w : World} (hm : P.follows .mixedOrders = true) (hS : S w.drew)
  (h : Hold S St (Array.replicate ops.size false) w.drew -> Yl P .any ops Q S St ops.size (Array.replicate ops.size false) a w.drew) : (Code.region id ops true).wp P Q a w :=
 wp_region_any hm (J7 _ _ _ _ (h fun _ => hS))
theorem Hold.over {s : Nat} {listed : Array Bool} {w : World} (h : s ∈ St) (hl : listed.getD s true = true) : Hold S St listed w := fun q => by
 have := q s h
 rw [hl] at this
 cases this
theorem Hold.of {listed : Array Bool} {w : World} (h : S w) : Hold S St listed w := fun _ => h
end
end
section
open Ieee Go.RowKit
theorem zdj (n : Nat) (w : World) : Calls Tryz.prog 97 #[.int .u8 (n : Int)] w fun e w' => e = .returned (.bool (zY n)) /\ w' = w := by
 go_enter Tryz.func97, Tryz.ntmps97
 go_wp2
 all_goals
  go_ret
  refine ⟨?_, rfl⟩
  simp [zY]
  try (rw [Bool.eq_iff_iff]; simp)
  try omega
theorem zaT (n : Nat) (w : World) (b : Bool) (hb : zY n = b) : Calls Tryz.prog 97 #[.int .u8 (n : Int)] w fun e w' => e = .returned (.bool b) /\ w' = w := by subst hb; exact zdj n w
theorem YM (n : Nat) (w : World) (b : Bool) (hb : z7 n = b) : Calls Tryz.prog 99 #[.int .u8 (n : Int)] w fun e w' => e = .returned (.bool b) /\ w' = w := by subst hb; exact Vo n w
theorem j3 (w : World) : Calls Tryz.prog 167 #[] w fun e w' => e = .returned (.slice (some ⟨w.heap.size, 0, none⟩) 18 18) /\ w' = w.alloc (.cells wordCells.toArray 9) := by
 go_enter Tryz.func167, Tryz.ntmps167
 go_wp2
 go_ret
 exact ⟨rfl, rfl⟩
theorem Jx (s : ByteArray) (w : World) : Calls Tryz.prog 133 #[.string s] w fun e w' => e = .returned (.bool (XU (bytes s))) /\ Below w.heap.size w w' := by
 obtain ⟨B, hB⟩ : ∃ B, Hid (B = XU (bytes s)) := ⟨_, (rfl : XU (bytes s) = _)⟩
 rw [<- hB.out]
 go_enter Tryz.func133, Tryz.ntmps133
 go_wp2_with fail
 refine (j3 _).mono ?_
 rintro e w1 ⟨rfl, hw1⟩
 have HC : Hid (∀ i, i < 18 -> w1.cell? ⟨w.heap.size, i, none⟩ = some (.string ⟨(words.getD i []).toArray⟩)) := by
  intro i hi; rw [hw1]; exact zdD w i hi
 have HB : Hid (Below w.heap.size w w1) := by
  show Below _ _ _
  rw [hw1]; exact (Below.refl _ _).alloc (zj _) _
 clear hw1
 go_wp2
 go_loopw [4] (fun j wr => ∃ i : Nat, j = .int .i64 (i : Int) /\ i <= 18 /\ Hid (XJ i (bytes s) = B) /\ wr = w1) (fun j _ => 18 - (intOf j).toNat)
 case atStart => exact ⟨0, rfl, by omega, by show _ = _; rw [hB.out]; rfl, rfl⟩
 case round =>
  obtain ⟨i, rfl, hi, hr, rfl⟩ := hrel
  by_cases hc : i < 18
  ·have hcell := HC.out i hc
   obtain ⟨W, hW⟩ : ∃ W : ByteArray, Hid (W = ⟨(words.getD i []).toArray⟩) := ⟨_, (rfl : (⟨(words.getD i []).toArray⟩ : ByteArray) = _)⟩
   rw [<- hW.out] at hcell
   by_cases he : words.getD i [] = bytes s
   ·have heq : (W.toList == s.toList) = true := by
     rw [hW.out, zf, zf, he]; simp [bytes]
    have hfin : Hid (B = true) := by show _ = _; rw [<- hr.out]; exact za2 i _ hc he
    clear he
    go_wp2
    go_ret
    exact ⟨by rw [hfin.out]; rfl, HB.out⟩
   ·have heq : (W.toList == s.toList) = false := by
     rw [hW.out, zf, zf]
     simp only [zt]
     intro h0
     exact he (by rw [<- h0]; simp [bytes])
    have hr' : Hid (XJ (i + 1) (bytes s) = B) := by show _ = _; rw [<- hr.out]; exact (zcE i _ hc he).symm
    clear he hr
    go_wp2
    go_roundw
    case rel => exact ⟨i + 1, by go_num, by omega, hr', trivial⟩
    case measure => simp [intOf]; omega
  ·have hfin : Hid (B = false) := by
    show _ = _
    rw [<- hr.out, show i = 18 by omega]
    simp [XJ, words]
   go_wp2
   go_ret
   exact ⟨by rw [hfin.out]; rfl, HB.out⟩
theorem zaf (s : ByteArray) (w : World) : Calls Tryz.prog 103 #[.string s] w fun e w' => e = .returned (.bool (Yg (bytes s))) /\ Below w.heap.size w w' := by
 by_cases h0 : s.size = 0
 ·rw [Xk s (.inl h0)]
  go_enter Tryz.func103, Tryz.ntmps103
  go_wp2
  go_ret
  exact ⟨rfl, Below.refl _ _⟩
 have hp : 0 < s.size := by omega
 by_cases h1 : 24 < s.size
 ·rw [Xk s (.inr (.inl h1))]
  go_enter Tryz.func103, Tryz.ntmps103
  go_wp2
  go_ret
  exact ⟨rfl, Below.refl _ _⟩
 have hNM := zes s hp
 cases hlet : z7 s[0].toNat
 ·rw [hNM, hlet]
  simp only [Bool.and_false, Bool.false_and]
  go_enter Tryz.func103, Tryz.ntmps103
  go_wp2_with (first | (go_at_call 99; refine (YM _ _ false hlet).mono ?_; rintro e w1 ⟨rfl, rfl⟩))
  go_ret
  exact ⟨rfl, Below.refl _ _⟩
 cases hw : XU (bytes s)
 ·have hNM2 : Hid (Yg (bytes s) = YC (bytes s)) := by
   show _ = _
   rw [hNM, hlet, hw]; simp [show s.size <= 24 by omega]
  have HW : Hid (XU (bytes s) = false) := hw
  rw [hNM2.out]
  obtain ⟨B, hB⟩ : ∃ B, Hid (B = YC (bytes s)) := ⟨_, (rfl : YC (bytes s) = _)⟩
  rw [<- hB.out]
  clear hNM hNM2 hw
  go_enter Tryz.func103, Tryz.ntmps103
  go_wp2_with fail
  refine (YM _ _ true hlet).mono ?_
  rintro e w1 ⟨rfl, hw1⟩
  rw [hw1]
  clear hw1
  go_wp2_with fail
  refine (Jx s _).mono ?_
  rw [HW.out]
  rintro e w2 ⟨rfl, hb2⟩
  have HB2 : Hid (Below w.heap.size w w2) := hb2
  clear hb2
  go_wp2
  go_loopw [3] (fun j wr => ∃ i : Nat, j = .int .i64 (i : Int) /\ i <= s.size /\ Hid (YC ((bytes s).drop i) = B) /\ wr = w2) (fun j _ => s.size - (intOf j).toNat)
  case atStart => exact ⟨0, rfl, by omega, by show _ = _; rw [hB.out]; rfl, rfl⟩
  case round =>
   obtain ⟨i, rfl, hi, hr, rfl⟩ := hrel
   by_cases hc : i < s.size
   ·cases a1 : z7 s[i].toNat
    ·cases a2 : zY s[i].toNat
     ·have hfin : Hid (B = false) := by show _ = _; rw [<- hr.out]; exact jg s i hc (by rw [a1, a2]; rfl)
      go_wp2_with (first | (go_at_call 99; refine (YM _ _ false a1).mono ?_; rintro e w3 ⟨rfl, rfl⟩) | (go_at_call 97; refine (zaT _ _ false a2).mono ?_; rintro e w3 ⟨rfl, rfl⟩))
      go_ret
      exact ⟨by rw [hfin.out]; rfl, HB2.out⟩
     ·have hr' : Hid (YC ((bytes s).drop (i + 1)) = B) := by show _ = _; rw [<- hr.out]; exact (X5 s i hc (by rw [a1, a2]; rfl)).symm
      clear hr
      go_wp2_with (first | (go_at_call 99; refine (YM _ _ false a1).mono ?_; rintro e w3 ⟨rfl, rfl⟩) | (go_at_call 97; refine (zaT _ _ true a2).mono ?_; rintro e w3 ⟨rfl, rfl⟩))
      go_roundw
      case rel => exact ⟨i + 1, by go_num, by omega, hr', trivial⟩
      case measure => simp [intOf]; omega
    ·have hr' : Hid (YC ((bytes s).drop (i + 1)) = B) := by show _ = _; rw [<- hr.out]; exact (X5 s i hc (by rw [a1]; rfl)).symm
     clear hr
     go_wp2_with (first | (go_at_call 99; refine (YM _ _ true a1).mono ?_; rintro e w3 ⟨rfl, rfl⟩))
     go_roundw
     case rel => exact ⟨i + 1, by go_num, by omega, hr', trivial⟩
     case measure => simp [intOf]; omega
   ·have hfin : Hid (B = true) := by
     show _ = _
     rw [<- hr.out, Yy s i hc]; rfl
    go_wp2
    go_ret
    exact ⟨by rw [hfin.out]; rfl, HB2.out⟩
 ·rw [Xk s (.inr (.inr hw))]
  have HW : Hid (XU (bytes s) = true) := hw
  clear hNM hw
  go_enter Tryz.func103, Tryz.ntmps103
  go_wp2_with fail
  refine (YM _ _ true hlet).mono ?_
  rintro e w1 ⟨rfl, hw1⟩
  rw [hw1]
  clear hw1
  go_wp2_with fail
  refine (Jx s _).mono ?_
  rw [HW.out]
  rintro e w2 ⟨rfl, hb2⟩
  go_wp2
  go_ret
  exact ⟨rfl, hb2⟩
end
theorem jp (a k n : Nat) (l : List UInt8) (h : pr (yT a) 1 6 = some (k, n)) (hl : XD k n = l) (w : World) :
  Calls Tryz.prog 174 #[.int .u64 (a : Int)] w fun e w' => e = .returned (.tuple #[.string ⟨l.toArray⟩, .int .i64 0]) /\ Below w.heap.size w w' := by
 refine (jq a w).mono ?_
 rintro e w' ⟨⟨k', n', h', rfl⟩ | ⟨h', _⟩, hb⟩
 ·rw [h] at h'
  cases h'
  exact ⟨by rw [hl], hb⟩
 ·rw [h] at h'; cases h'
theorem jo (a : Nat) (h : pr (yT a) 1 6 = none) (w : World) :
  Calls Tryz.prog 174 #[.int .u64 (a : Int)] w fun e w' => e = .returned (.tuple #[.string ⟨#[]⟩, .int .i64 2]) /\ Below w.heap.size w w' := by
 refine (jq a w).mono ?_
 rintro e w' ⟨⟨k', n', h', rfl⟩ | ⟨h', rfl⟩, hb⟩
 ·rw [h] at h'; cases h'
 ·exact ⟨rfl, hb⟩
section
open Ieee Go.RowKit
theorem zc6 (a : Nat) (ha : a < 18446744073709551616) : yT (YI a) = YI a := by
 cases hn : zX a
 ·exact Z4 (by rw [zbC ha, hn])
 ·rw [show YI a = NAN by simp only [YI, hn, if_true]]; decide
end
def lnN : List UInt8 -> Nat
 | [] => 0
 | c :: r => if c.toNat = 10 then 0 else lnN r + 1
theorem zf6 {c d : UInt8} : c = d ↔ c.toNat = d.toNat := UInt8.toNat_inj.symm
theorem zbx (l : List UInt8) : lnN l <= l.length := by
 induction l with
 | nil => simp [lnN]
 | cons c r ih => simp only [lnN]; split <;> simp; omega
theorem zc0 (l : List UInt8) : (Lib.indexByte l 10 = -1 /\ lnN l = l.length) \/ Lib.indexByte l 10 = (lnN l : Int) := by
 induction l with
 | nil => exact .inl ⟨rfl, rfl⟩
 | cons c r ih =>
  simp only [Lib.indexByte, lnN]
  by_cases h : c.toNat = 10
  ·have : (c == 10) = true := by rw [beq_iff_eq, zf6]; exact h
   simp [this, h]
  ·have : (c == 10) = false := by rw [zt, ne_eq, zf6]; exact h
   have ge := Lib.indexByte_ge r 10
   rcases ih with ⟨h1, h2⟩ | h1
   ·left; simp [this, h, h1, h2]
   ·right
    have hne : (Lib.indexByte r 10 == -1) = false := by rw [zt]; omega
    simp [this, h, h1]
theorem zdZ (l : List UInt8) : skF true l = lnN l + skF false (l.drop (lnN l)) := by
 induction l with
 | nil => rfl
 | cons c r ih =>
  simp only [lnN]
  by_cases h : c.toNat = 10
  ·simp [skF, h, Jh]
  ·simp only [skF, h, if_false, ih, List.drop_succ_cons]
   omega
theorem qZ (s : ByteArray) (k : Nat) (hk : k < s.size) (h : Jh s[k].toNat = true) : k + skN ((bytes s).drop k) = k + 1 + skN ((bytes s).drop (k + 1)) := by
 rw [z8 s k hk]
 simp only [skN, skF, h, if_true]
 omega
theorem zb1 (s : ByteArray) (k : Nat) (hk : k < s.size) (h : s[k].toNat = 35) : k + skN ((bytes s).drop k) = k + lnN ((bytes s).drop k) + skN ((bytes s).drop (k + lnN ((bytes s).drop k))) := by
 rw [z8 s k hk]
 have hb : Jh s[k].toNat = false := by rw [h]; rfl
 have e : lnN (s[k] :: (bytes s).drop (k + 1)) = lnN ((bytes s).drop (k + 1)) + 1 := by simp [lnN, h]
 rw [e]
 simp only [skN, skF, h, if_true, zdZ, List.drop_drop]
 rw [show k + (lnN ((bytes s).drop (k + 1)) + 1) = k + 1 + lnN ((bytes s).drop (k + 1)) by omega, show Jh 35 = false from rfl]
 simp only [ZV, if_false]
 omega
theorem zb2 (s : ByteArray) (k : Nat) (hk : k < s.size) (hb : Jh s[k].toNat = false) (h : ¬ s[k].toNat = 35) : skN ((bytes s).drop k) = 0 := by
 rw [z8 s k hk]
 simp [skN, skF, hb, h]
theorem zgi (s : ByteArray) (k : Nat) (hk : ¬ k < s.size) : skN ((bytes s).drop k) = 0 := by
 rw [Yy s k hk]; rfl
theorem zaC (s : ByteArray) (k : Nat) (w : World) (hk : k <= s.size) (hs : s.size <= 1099511627776) :
  Calls Tryz.prog 85 #[.string s, .int .i64 (k : Int)] w fun e w' => e = .returned (.int .i64 ((k + lnN ((bytes s).drop k) : Nat) : Int)) /\ w' = w := by
 have hle := zbx ((bytes s).drop k)
 rw [yC, zc] at hle
 have hix := zc0 ((bytes s).drop k)
 rw [yC, zc] at hix
 obtain ⟨N, hN⟩ : ∃ N, Hid (N = lnN ((bytes s).drop k)) := ⟨_, (rfl : lnN ((bytes s).drop k) = _)⟩
 rw [<- hN.out] at hle hix ⊢
 have hcall : ∀ w, Calls Tryz.prog 119 #[.string (s.extract k s.size), .int .u8 10] w fun e w' => e = .returned (.int .i64 (Lib.indexByte ((bytes s).drop k) 10)) /\ w' = w := by
  intro w
  have := Xc (s.extract k s.size) 10 w
  rw [show (s.extract k s.size).data.toList = bytes (s.extract k s.size) from rfl, VA] at this
  exact this
 obtain ⟨I, hI⟩ : ∃ I, Hid (I = Lib.indexByte ((bytes s).drop k) 10) := ⟨_, (rfl : Lib.indexByte ((bytes s).drop k) 10 = _)⟩
 rw [<- hI.out] at hix hcall
 have HC : Hid (∀ w, Calls Tryz.prog 119 #[.string (s.extract k s.size), .int .u8 10] w fun e w' => e = .returned (.int .i64 I) /\ w' = w) := hcall
 clear hcall
 rcases hix with ⟨rfl, h2⟩ | rfl
 ·go_enter Tryz.func85, Tryz.ntmps85
  go_wp2_with (first | (go_at_call 119; refine (HC.out _).mono ?_; rintro e w1 ⟨rfl, rfl⟩))
  go_ret
  exact ⟨by rw [h2, show k + (s.size - k) = s.size by omega]; rfl, rfl⟩
 ·go_enter Tryz.func85, Tryz.ntmps85
  go_wp2_with (first | (go_at_call 119; refine (HC.out _).mono ?_; rintro e w1 ⟨rfl, rfl⟩))
  go_ret
  exact ⟨by go_num, rfl⟩
theorem qY (s : ByteArray) (k : Nat) (w : World) (hk : k <= s.size) (hs : s.size <= 1099511627776) :
  Calls Tryz.prog 51 #[.string s, .int .i64 (k : Int)] w fun e w' => e = .returned (.int .i64 ((k + skN ((bytes s).drop k) : Nat) : Int)) /\ w' = w := by
 obtain ⟨T, hT⟩ : ∃ T, Hid (T = k + skN ((bytes s).drop k)) := ⟨_, (rfl : k + skN ((bytes s).drop k) = _)⟩
 rw [<- hT.out]
 go_enter Tryz.func51, Tryz.ntmps51
 go_wp2
 go_loopw [1] (fun j wr => ∃ i : Nat, j = .int .i64 (i : Int) /\ i <= s.size /\ Hid (i + skN ((bytes s).drop i) = T) /\ wr = w) (fun j _ => s.size - (intOf j).toNat)
 case atStart => exact ⟨k, rfl, hk, hT.out.symm, rfl⟩
 case round =>
  obtain ⟨i, rfl, hi, hr, rfl⟩ := hrel
  by_cases hc : i < s.size
  ·by_cases hb : Jh s[i].toNat = true
   ·have hr' : Hid (i + 1 + skN ((bytes s).drop (i + 1)) = T) := by show _ = _; rw [<- hr.out]; exact (qZ s i hc hb).symm
    clear hr
    have hb' : (s[i].toNat : Int) = 9 \/ (s[i].toNat : Int) = 10 \/ (s[i].toNat : Int) = 13 \/ (s[i].toNat : Int) = 32 := by
     simp only [Jh, Bool.or_eq_true, Yz] at hb; omega
    obtain ⟨c, hcc⟩ : ∃ c : Int, c = (s[i].toNat : Int) := ⟨_, rfl⟩
    rw [<- hcc] at hb'
    rcases hb' with h | h | h | h
    all_goals
     have hcb : (s[i].toNat : Int) = c := hcc.symm
     rw [h] at hcb
     clear hb hcc
     go_wp2
     go_roundw
     case rel => exact ⟨i + 1, by go_num, by omega, hr', trivial⟩
     case measure => simp [intOf]; omega
   ·have hb' : ¬ (s[i].toNat : Int) = 9 /\ ¬ (s[i].toNat : Int) = 10 /\ ¬ (s[i].toNat : Int) = 13 /\ ¬ (s[i].toNat : Int) = 32 := by
     simp only [Jh, Bool.or_eq_true, Yz] at hb; omega
    obtain ⟨h1, h2, h3, h4⟩ := hb'
    by_cases hn : s[i].toNat = 35
    ·have hL : Hid (i + lnN ((bytes s).drop i) + skN ((bytes s).drop (i + lnN ((bytes s).drop i))) = T) := by show _ = _; rw [<- hr.out]; exact (zb1 s i hc hn).symm
     have hle := zbx ((bytes s).drop i)
     rw [yC, zc] at hle
     have hpos : 1 <= lnN ((bytes s).drop i) := by rw [z8 s i hc]; simp [lnN, hn]
     have hcl := zaC s i wr (by omega) hs
     obtain ⟨N, hN⟩ : ∃ N, Hid (N = lnN ((bytes s).drop i)) := ⟨_, (rfl : lnN ((bytes s).drop i) = _)⟩
     have hL2 : Hid (i + N + skN ((bytes s).drop (i + N)) = T) := by show _ = _; rw [hN.out]; exact hL.out
     rw [<- hN.out] at hle hpos hcl
     have HCL : Hid (Calls Tryz.prog 85 #[.string s, .int .i64 (i : Int)] wr fun e w' => e = .returned (.int .i64 ((i + N : Nat) : Int)) /\ w' = wr) := hcl
     clear hL hcl hr hb
     have hn' : (s[i].toNat : Int) = 35 := by omega
     go_wp2_with (first | (go_at_call 85; refine (HCL.out).mono ?_; rintro e w1 ⟨rfl, rfl⟩))
     go_roundw
     case rel => exact ⟨i + N, rfl, by omega, hL2, trivial⟩
     case measure => simp [intOf]; omega
    ·have hz := zb2 s i hc (by simpa using hb) hn
     have hfin : Hid (i = T) := by show _ = _; have := hr.out; omega
     have h5 : ¬ (s[i].toNat : Int) = 35 := by omega
     clear hb hz hr
     go_wp2
     go_ret
     exact ⟨by rw [<- hfin.out]; rfl, rfl⟩
  ·have hz := zgi s i hc
   have hfin : Hid (i = T) := by show _ = _; have := hr.out; omega
   clear hz hr
   go_wp2
   go_ret
   exact ⟨by rw [hfin.out]; rfl, rfl⟩
def Dig (l : List UInt8) (j : Nat) : Prop := 48 <= (l.getD j 0).toNat /\ (l.getD j 0).toNat <= 57
theorem X3 {l A B : List UInt8} (h : l = A ++ 46 :: B) : l.length = A.length + (B.length + 1) /\ l.getD A.length 0 = 46 /\ (∀ j, j < A.length -> l.getD j 0 = A.getD j 0) /\ (∀ j, j < B.length -> l.getD (A.length + 1 + j) 0 = B.getD j 0) := by
 subst h
 refine ⟨by simp, by simp [List.getD], ?_, ?_⟩
 ·intro j hj
  simp [List.getD, KA hj]
 ·intro j hj
  rw [List.getD, Kz (by omega), show A.length + 1 + j - A.length = j + 1 by omega, List.getElem?_cons_succ]
  rfl
theorem zaB {l : List UInt8} (h : yO l) : (∀ j, j < l.length -> j ≠ (zw l).length -> Dig l j) /\ l.getD (zw l).length 0 = 46 /\ (zw l).length < l.length := by
 obtain ⟨h1, h2, h3, h4⟩ := X3 (Je h)
 refine ⟨?_, h2, by omega⟩
 intro j hj hne
 unfold Dig
 rcases Nat.lt_or_ge j (zw l).length with hl | hl
 ·rw [h3 j hl]; exact h.2.2.2.1.2.2.1 j hl
 ·have := h4 (j - (zw l).length - 1) (by omega)
  rw [show (zw l).length + 1 + (j - (zw l).length - 1) = j by omega] at this
  rw [this]
  exact Jt h.2.2.2.2 _ (by omega)
theorem zaQ {l : List UInt8} {i : Nat} (hi : i < l.length) (hd : ∀ j, j < i -> Dig l j) (hc : (l.getD i 0).toNat = 46) : l = zw l ++ 46 :: zu l /\ (zw l).length = i := by
 have hsp : l = l.take i ++ 46 :: l.drop (i + 1) := by
  conv => lhs; rw [<- List.take_append_drop i l]
  congr 1
  rw [List.drop_eq_getElem_cons hi]
  congr 1
  apply UInt8.toNat_inj.1
  rw [List.getD, yD hi] at hc
  exact hc
 have hno : ∀ c ∈ l.take i, (c != 46) = true := by
  intro c hcm
  obtain ⟨j, hj, rfl⟩ := List.getElem_of_mem hcm
  have hji : j < i := by rw [Yj] at hj; omega
  have := (hd j hji).1
  rw [List.getD, yD (by omega)] at this
  rw [bne_iff_ne, List.getElem_take]
  intro e
  rw [e] at this
  simp at this
 obtain ⟨c1, c2⟩ := zgP (l.take i) (l.drop (i + 1)) hno
 rw [<- hsp] at c1 c2
 refine ⟨by rw [c1, c2]; exact hsp, ?_⟩
 rw [c1, Yj]; omega
def bare (l : List UInt8) : List UInt8 := zw l ++ zu l
theorem jc (a b : List UInt8) : zn (a ++ b) = zn a * 10 ^ b.length + zn b := by
 have := jC b (zn a)
 unfold zn at this ⊢
 rw [List.foldl_append, this]
theorem JE {l : List UInt8} (h : yO l) : yE l = zn (bare l) := by
 obtain ⟨e1, e2⟩ := zd8 h.2.2.2.2
 unfold yE bare
 rw [e1, jc]; omega
def place (p i : Nat) : Nat := if i <= p then i else i - 1
theorem zds {l : List UInt8} (hs : l = zw l ++ 46 :: zu l) (i : Nat) (hi : i < l.length) (hne : i ≠ (zw l).length) :
  zn ((bare l).take (place (zw l).length (i + 1))) = zn ((bare l).take (place (zw l).length i)) * 10 + ((l.getD i 0).toNat - 48) := by
 obtain ⟨h1, h2, h3, h4⟩ := X3 hs
 have hb : (bare l).length = (zw l).length + (zu l).length := by simp [bare]
 have hp : place (zw l).length (i + 1) = place (zw l).length i + 1 := by unfold place; split <;> split <;> omega
 have hpl : place (zw l).length i < (bare l).length := by unfold place; split <;> omega
 rw [hp, ZS _ _ hpl]
 congr 3
 unfold place bare
 split
 ·rw [h3 i (by omega), List.getD, KA (by omega)]; rfl
 ·have := h4 (i - (zw l).length - 1) (by omega)
  rw [show (zw l).length + 1 + (i - (zw l).length - 1) = i by omega] at this
  rw [this, List.getD, Kz (by omega), show i - 1 - (zw l).length = i - (zw l).length - 1 by omega]; rfl
theorem zdt (p : Nat) : place p (p + 1) = place p p := by unfold place; simp
theorem zfV {l : List UInt8} (h : yO l) (k : Nat) : zn ((bare l).take k) < 1000000000000000 := by
 have h1 := za6 (bare l) k
 have h2 := (zaA h).2.1
 rw [JE h] at h2
 omega
def PSt (l : List UInt8) (i : Nat) (pt : Int) : Prop :=
 (pt = -1 /\ ∀ j, j < i -> Dig l j) \/ (∃ p : Nat, pt = (p : Int) /\ p < i /\ l = zw l ++ 46 :: zu l /\ (zw l).length = p /\ ∀ j, j < i -> j ≠ p -> Dig l j)
theorem zgh {l : List UInt8} {i : Nat} {pt : Int} (h : PSt l i pt) (hi : i < l.length) (hc : ¬ Dig l i) (hp : ¬ ((l.getD i 0).toNat = 46 /\ pt < 0)) : ¬ yO l := by
 intro hl
 obtain ⟨d1, d2, d3⟩ := zaB hl
 by_cases he : i = (zw l).length
 ·rcases h with ⟨h1, _⟩ | ⟨p, h1, h2, _, h3, _⟩
  ·exact hp ⟨by rw [he, d2]; rfl, by omega⟩
  ·omega
 ·exact hc (d1 i hi he)
theorem zff {l : List UInt8} (h : ∀ j, j < l.length -> Dig l j) : ¬ yO l := by
 intro hl
 obtain ⟨d1, d2, d3⟩ := zaB hl
 have := (h _ d3).1
 rw [d2] at this
 simp at this
theorem zgg {l : List UInt8} {p : Nat} (hs : l = zw l ++ 46 :: zu l) (hp : (zw l).length = p) (hd : ∀ j, j < l.length -> j ≠ p -> Dig l j) (hlen : l.length <= 16) (h1 : 1 <= p) (h2 : 1 <= (zu l).length) (h3 : (zu l).length <= 6) (h0 : (l.getD 0 0).toNat = 48 -> p = 1) : yO l := by
 obtain ⟨e1, e2, e3, e4⟩ := X3 hs
 have hA : ∀ j, j < (zw l).length -> 48 <= ((zw l).getD j 0).toNat /\ ((zw l).getD j 0).toNat <= 57 := by
  intro j hj
  have := hd j (by omega) (by omega)
  unfold Dig at this
  rwa [e3 j hj] at this
 have hB : ∀ j, j < (zu l).length -> 48 <= ((zu l).getD j 0).toNat /\ ((zu l).getD j 0).toNat <= 57 := by
  intro j hj
  have := hd ((zw l).length + 1 + j) (by omega) (by omega)
  unfold Dig at this
  rwa [e4 j hj] at this
 have lA := Jj _ hA
 have lB := Jj _ hB
 have pA : 10 ^ (zw l).length <= 10 ^ 15 := Nat.pow_le_pow_right (by decide) (by omega)
 have pB : 10 ^ (zu l).length <= 10 ^ 6 := Nat.pow_le_pow_right (by decide) h3
 refine ⟨h2, h3, by omega, ⟨by omega, ?_, hA, by omega⟩, ⟨by simp, ?_, ?_, ?_⟩⟩
 ·intro hz
  rw [hp]
  apply h0
  rw [e3 0 (by omega)]; exact hz
 ·intro hz; simp at hz
 ·intro j hj
  cases j with
  | zero => simp
  | succ j => simpa using hB j (by simpa using hj)
 ·rw [JM]
  have : (49 : UInt8).toNat - 48 = 1 := rfl
  rw [this]; omega
def ZB (h : Nat) : List UInt8 :=
 if h = NAN then [110, 97, 110]
 else if h = 9218868437227405312 then [105, 110, 102]
 else if h = 18442240474082181120 then [45, 105, 110, 102]
 else match pr h 1 6 with
  | some (k, n) => XD k n
  | none => match pr (YI h) 1 6 with
   | some (k, n) => 45 :: XD k n
   | none => 35 :: Z5 (yY 8 h)
theorem zc1 (k n : Nat) : (XD k n).length <= 43 := by
 unfold XD
 have h1 := Va ((n / 10 ^ k : Nat) : Int)
 have h2 := Va ((10 ^ k + n % 10 ^ k : Nat) : Int)
 rw [yN, yN, yC]
 simp only [List.length_singleton]
 omega
theorem zey (h : Nat) : (Z5 (yY 8 h)).length = 16 := by
 rw [qq, Yd]
theorem zgR (h : Nat) (hh : h < 18446744073709551616) (w : World) : Calls Tryz.prog 175 #[.int .u64 (h : Int), .int .i64 8] w fun e w' => ∃ (a : Option Addr) (c : Nat), e = .returned (.tuple #[.slice a 8 c, .int .i64 0]) /\ Row w' a (yY 8 h) /\ Below w.heap.size w w' := by
 refine (show Calls Tryz.prog 175 #[.int .u64 (h : Int), .int .i64 8] w _ from zeQ h 8 hh (by omega) (by omega) (Nat.div_eq_of_lt hh) w).mono ?_
 rintro e w' ⟨v, rfl, hown, hb⟩
 obtain ⟨a, c, rfl, _, _, hrow⟩ := hown.row
 rw [Yd]
 exact ⟨a, c, rfl, hrow, hb⟩
theorem zhp (a : Option Addr) (c h : Nat) (w : World) (hrow : Row w a (yY 8 h)) (d : List UInt8) (hd : Hid (d = Z5 (yY 8 h))) : Calls Tryz.prog 176 #[.slice a 8 c] w fun e w' => e = .returned (.string ⟨d.toArray⟩) /\ Below w.heap.size w w' := by
 have := zfH a c (yY 8 h) w hrow (by rw [Yd]; omega)
 rw [Yd, <- hd.out] at this
 exact this
theorem zcH (a h : Nat) (hh : h = yT a) (hl : h < 18446744073709551616) (w : World) : Calls Tryz.prog 148 #[.int .u64 (a : Int)] w fun e w' => e = .returned (.string ⟨(ZB h).toArray⟩) /\ Below w.heap.size w w' := by
 have hhh : yT h = h := by rw [hh, zc5]
 have k0 : ∀ w, Calls Tryz.prog 173 #[.int .u64 (a : Int)] w fun e w' => e = .returned (.int .u64 (h : Int)) /\ w' = w := fun w => by rw [hh]; exact Jk a w
 clear hh
 by_cases c1 : h = NAN
 ·have ht : ZB h = [110, 97, 110] := by unfold ZB; rw [zi c1]
  rw [ht]
  subst c1
  go_enter Tryz.func148, Tryz.ntmps148
  go_wp2_with fail
  refine (k0 _).mono ?_
  rintro e w' ⟨rfl, rfl⟩
  go_wp2
  go_ret
  exact ⟨rfl, Below.refl _ _⟩
 have b1 : ((h : Int) == 9221120237041090560) = false := by rw [zt]; intro hx; apply c1; unfold NAN; omega
 by_cases c2 : h = 9218868437227405312
 ·have ht : ZB h = [105, 110, 102] := by unfold ZB; rw [ze c1, zi c2]
  rw [ht]
  subst c2
  go_enter Tryz.func148, Tryz.ntmps148
  go_wp2_with fail
  refine (k0 _).mono ?_
  rintro e w' ⟨rfl, rfl⟩
  go_wp2
  go_ret
  exact ⟨rfl, Below.refl _ _⟩
 have b2 : ((h : Int) == 9218868437227405312) = false := by rw [zt]; omega
 by_cases c3 : h = 18442240474082181120
 ·have ht : ZB h = [45, 105, 110, 102] := by unfold ZB; rw [ze c1, ze c2, zi c3]
  rw [ht]
  subst c3
  go_enter Tryz.func148, Tryz.ntmps148
  go_wp2_with fail
  refine (k0 _).mono ?_
  rintro e w' ⟨rfl, rfl⟩
  go_wp2
  go_ret
  exact ⟨rfl, Below.refl _ _⟩
 have b3 : ((h : Int) == 18442240474082181120) = false := by rw [zt]; omega
 have ht : ZB h = match pr h 1 6 with
  | some (k, n) => XD k n
  | none => match pr (YI h) 1 6 with
   | some (k, n) => 45 :: XD k n
   | none => 35 :: Z5 (yY 8 h) := by unfold ZB; rw [ze c1, ze c2, ze c3]
 cases hp : pr h 1 6 with
 | some kn =>
  obtain ⟨k, n⟩ := kn
  rw [hp] at ht
  simp only at ht
  have p1 := jp h k n (ZB h) (by rw [hhh]; exact hp) ht.symm
  clear ht
  go_enter Tryz.func148, Tryz.ntmps148
  go_wp2_with fail
  refine (k0 _).mono ?_
  rintro e w' ⟨rfl, rfl⟩
  go_wp2_with fail
  refine (p1 _).mono ?_
  rintro e w2 ⟨rfl, hb2⟩
  go_wp2
  go_ret
  exact ⟨rfl, hb2⟩
 | none =>
  rw [hp] at ht
  simp only at ht
  have p1 := jo h (by rw [hhh]; exact hp)
  obtain ⟨g, hg⟩ : ∃ g, g = YI h := ⟨_, rfl⟩
  have k1 : ∀ w, Calls Tryz.prog 161 #[.int .u64 (h : Int)] w fun e w' => e = .returned (.int .u64 (g : Int)) /\ w' = w := fun w => by rw [hg]; exact zb9 h hl w
  have hgh : yT g = g := by rw [hg]; exact zc6 h hl
  cases hq : pr (YI h) 1 6
  focus
   rw [hq] at ht
   simp only at ht
   have p2 := jo g (by rw [hgh, hg]; exact hq)
   obtain ⟨L, hL⟩ : ∃ L, Hid (L = Z5 (yY 8 h)) := ⟨_, (rfl : Z5 (yY 8 h) = _)⟩
   have hLl : L.length = 16 := by rw [hL.out]; exact zey h
   rw [<- hL.out] at ht
   rw [ht]
  rotate_left
  focus
   rename_i kn
   obtain ⟨k, n⟩ := kn
   rw [hq] at ht
   simp only at ht
   obtain ⟨L, hL⟩ : ∃ L, L = XD k n := ⟨_, rfl⟩
   have hLl : L.length <= 43 := by rw [hL]; exact zc1 k n
   have p2 := jp g k n L (by rw [hgh, hg]; exact hq) hL.symm
   have ht' : ZB h = 45 :: L := by rw [ht, hL]
   rw [ht']
   clear ht ht' hL hp hq hg
  rotate_left
  all_goals
   have hsz : (⟨L.toArray⟩ : ByteArray).size = L.length := Xo L
  focus
   clear ht hp hq hg
  all_goals
   go_enter Tryz.func148, Tryz.ntmps148
   go_wp2_with fail
   refine (k0 _).mono ?_
   rintro e w' ⟨rfl, rfl⟩
   go_wp2_with fail
   refine (p1 _).mono ?_
   rintro e w2 ⟨rfl, hb2⟩
   go_wp2_with fail
   refine (k1 _).mono ?_
   rintro e w' ⟨rfl, rfl⟩
   go_wp2_with fail
   refine (p2 _).mono ?_
   rintro e w3 ⟨rfl, hb3⟩
  ·have hC3 := hb2.trans (hb3.mono hb2.size)
   clear hb2 hb3
   go_wp2_with fail
   refine (zgR h hl _).mono ?_
   rintro e w4 ⟨a4, c4, rfl, hrow, hb4⟩
   have hC4 := hC3.trans (hb4.mono hC3.size)
   clear hC3 hb4
   go_wp2_with fail
   refine (zhp a4 c4 h _ hrow L hL).mono ?_
   rintro e w5 ⟨rfl, hb5⟩
   go_wp2
   go_ret
   exact ⟨congrArg (fun x => Ending.returned (.string x)) (X0 [35] L), hC4.trans (hb5.mono hC4.size)⟩
  ·go_wp2
   go_ret
   exact ⟨congrArg (fun x => Ending.returned (.string x)) (X0 [45] L), hb2.trans (hb3.mono hb2.size)⟩
theorem zdU (a : Nat) (ha : a < 18446744073709551616) (w : World) : Calls Tryz.prog 148 #[.int .u64 (a : Int)] w fun e w' => e = .returned (.string ⟨(ZB (yT a)).toArray⟩) /\ Below w.heap.size w w' := zcH a (yT a) rfl (J1 ha) w
theorem Vl (c : Nat) (hc : c < 256) (w : World) : Calls Tryz.prog 165 #[.int .u8 (c : Int)] w fun e w' => e = .returned (.bool (decide (48 <= c /\ c <= 57))) /\ w' = w := by
 by_cases h1 : 48 <= c
 ·by_cases h2 : c <= 57
  ·rw [yy ⟨h1, h2⟩]
   go_enter Tryz.func165, Tryz.ntmps165
   go_wp2
   go_ret
   exact ⟨by first | (simp; done) | (simp; omega), rfl⟩
  ·rw [zN (fun h => h2 h.2)]
   go_enter Tryz.func165, Tryz.ntmps165
   go_wp2
   go_ret
   exact ⟨by first | (simp; done) | (simp; omega), rfl⟩
 ·rw [zN (fun h => h1 h.1)]
  go_enter Tryz.func165, Tryz.ntmps165
  go_wp2
  go_ret
  exact ⟨by first | (simp; done) | (simp; omega), rfl⟩
theorem j7 (s : ByteArray) (w : World) (hs : s.size <= 1099511627775) : Calls Tryz.prog 131 #[.string s] w fun e w' => YO (bytes s) e /\ ∃ q, w' = w.drewN q := by
 have hbl := zc s
 by_cases hl : 16 < s.size
 ·have hno : ¬ yO (bytes s) := by
   intro h
   have h1 := congrArg List.length (Je h)
   have h2 := h.2.2.1
   rw [hbl] at h1
   simp at h1
   omega
  go_enter Tryz.func131, Tryz.ntmps131
  go_wp2
  go_ret2
  exact ⟨.inr ⟨hno, rfl⟩, 0, rfl⟩
 go_enter Tryz.func131, Tryz.ntmps131
 go_wp2
 go_loop [4, 5] (fun t i => ∃ (k : Nat) (pt : Int), k <= s.size /\ -1 <= pt /\ pt < s.size /\ i = .int .i64 (k : Int) /\ t = .int .i64 pt /\ Hid (PSt (bytes s) k pt)) (fun _ i => s.size - (intOf i).toNat)
 case atStart => exact ⟨0, -1, by omega, by omega, by omega, rfl, rfl, (Or.inl ⟨rfl, fun j hj => by omega⟩ : PSt (bytes s) 0 (-1))⟩
 case round =>
  obtain ⟨k, pt, hk, hp1, hp2, rfl, rfl, hst⟩ := hrel
  by_cases hlt : k < s.size
  ·obtain ⟨c, hc⟩ : ∃ c : Nat, s[k].toNat = c := ⟨_, rfl⟩
   have HC : Hid (((bytes s).getD k 0).toNat = c) := by show _ = _; rw [yH s k hlt]; exact hc
   have hcl : c < 256 := by rw [<- hc]; exact UInt8.toNat_lt _
   by_cases hdot : c = 46 /\ pt < 0
   ·obtain ⟨hc46, hpt⟩ := hdot
    have hb46 : ((c : Int) == 46) = true := by rw [beq_iff_eq]; omega
    have HS : Hid (PSt (bytes s) (k + 1) (k : Int)) := by
     show PSt (bytes s) (k + 1) (k : Int)
     rcases hst.out with ⟨h1, h2⟩ | ⟨p, h1, _⟩
     ·obtain ⟨f1, f2⟩ := zaQ (by rw [hbl]; exact hlt) h2 (by rw [HC.out]; exact hc46)
      exact Or.inr ⟨k, rfl, by omega, f1, f2, fun j hj hne => h2 j (by omega)⟩
     ·omega
    clear hst hc46
    go_wp2
    go_round
    case rel => exact ⟨k + 1, k, by omega, by omega, by omega, by go_num, rfl, HS⟩
    case measure => simp [intOf]; omega
   ·by_cases hdg : 48 <= c /\ c <= 57
    ·have hb46 : ((c : Int) == 46) = false := by rw [zt]; omega
     have HS : Hid (PSt (bytes s) (k + 1) pt) := by
      show PSt (bytes s) (k + 1) pt
      rcases hst.out with ⟨h1, h2⟩ | ⟨p, h1, h2, h3, h4, h5⟩
      ·refine Or.inl ⟨h1, fun j hj => ?_⟩
       rcases Nat.lt_or_ge j k with h | h
       ·exact h2 j h
       ·obtain rfl : j = k := by omega
        unfold Dig; rw [HC.out]; exact hdg
      ·refine Or.inr ⟨p, h1, by omega, h3, h4, fun j hj hne => ?_⟩
       rcases Nat.lt_or_ge j k with h | h
       ·exact h5 j h hne
       ·obtain rfl : j = k := by omega
        unfold Dig; rw [HC.out]; exact hdg
     have hdd : decide (48 <= c /\ c <= 57) = true := yy hdg
     clear hst
     go_wp2_with (go_at_call 165; refine (Vl c hcl _).mono ?_; rintro e w' ⟨rfl, rfl⟩; rw [hdd])
     go_round
     case rel => exact ⟨k + 1, pt, by omega, by omega, by omega, by go_num, rfl, HS⟩
     case measure => simp [intOf]; omega
    ·have hno : ¬ yO (bytes s) := zgh hst.out (by rw [hbl]; exact hlt) (by unfold Dig; rw [HC.out]; exact hdg) (by rw [HC.out]; exact hdot)
     have hdd : decide (48 <= c /\ c <= 57) = false := zN hdg
     clear hst
     by_cases h46 : c = 46
     ·have hb46 : ((c : Int) == 46) = true := by rw [beq_iff_eq]; omega
      have hpt : 0 <= pt := by
       have : ¬ pt < 0 := fun h => hdot ⟨h46, h⟩
       omega
      clear hdot h46 hdg
      go_wp2_with (go_at_call 165; refine (Vl c hcl _).mono ?_; rintro e w' ⟨rfl, rfl⟩; rw [hdd])
      go_ret2
      exact ⟨.inr ⟨hno, rfl⟩, 0, rfl⟩
     ·have hb46 : ((c : Int) == 46) = false := by rw [zt]; omega
      go_wp2_with (go_at_call 165; refine (Vl c hcl _).mono ?_; rintro e w' ⟨rfl, rfl⟩; rw [hdd])
      go_ret2
      exact ⟨.inr ⟨hno, rfl⟩, 0, rfl⟩
  ·obtain rfl : k = s.size := by omega
   rcases hst.out with ⟨h1, h2⟩ | ⟨p, h1, h2, h3, h4, h5⟩
   ·have hno : ¬ yO (bytes s) := zff (by rw [hbl]; exact h2)
    subst h1
    clear hst h2
    go_wp2
    go_ret2
    exact ⟨.inr ⟨hno, rfl⟩, 0, rfl⟩
   ·subst h1
    clear hst
    obtain ⟨b, hb⟩ : ∃ b, b = (zu (bytes s)).length := ⟨_, rfl⟩
    have hpb : s.size = p + (b + 1) := by
     have := (X3 h3).1
     rw [hbl, h4, <- hb] at this
     exact this
    have hpos : 0 < s.size := by omega
    obtain ⟨c0, hc0⟩ : ∃ c0 : Nat, s[0].toNat = c0 := ⟨_, rfl⟩
    have HC0 : Hid (((bytes s).getD 0 0).toNat = c0) := by show _ = _; rw [yH s 0 hpos]; exact hc0
    have hc0l : c0 < 256 := by rw [<- hc0]; exact UInt8.toNat_lt _
    have H3 : Hid (bytes s = zw (bytes s) ++ 46 :: zu (bytes s)) := h3
    have H4 : Hid ((zw (bytes s)).length = p) := h4
    have H5 : Hid (∀ j, j < s.size -> j ≠ p -> Dig (bytes s) j) := h5
    have HB : Hid (b = (zu (bytes s)).length) := hb
    clear h3 h4 h5 hb
    by_cases g1 : 1 <= p /\ 1 <= b /\ b <= 6 /\ ¬ (c0 = 48 /\ 1 < p)
    ·obtain ⟨q1, q2, q3, q4⟩ := g1
     have hlit : Hid (yO (bytes s)) := zgg H3.out H4.out (by rw [hbl]; exact H5.out) (by rw [hbl]; omega) q1 (by rw [<- HB.out]; exact q2) (by rw [<- HB.out]; exact q3) (by rw [HC0.out]; intro h; omega)
     have hz' : ((c0 : Int) == 48) = true /\ p = 1 \/ ((c0 : Int) == 48) = false := by
      by_cases h : c0 = 48
      ·exact .inl ⟨by rw [beq_iff_eq]; omega, by omega⟩
      ·exact .inr (by rw [zt]; omega)
     clear q4
     have hN : Hid (zn ((bare (bytes s)).take (place p s.size)) = yE (bytes s)) := by
      show _ = _
      rw [JE hlit.out, List.take_of_length_le]
      have : (bare (bytes s)).length = p + b := by
       unfold bare
       rw [yN, H4.out, <- HB.out]
      rw [this]; unfold place; split <;> omega
     rcases hz' with ⟨z1, zp⟩ | z1
     all_goals
      go_wp2
      go_loop [7, 8, 9] (fun nn pp ii => ∃ (k N P : Nat), k <= s.size /\ N < 1000000000000000 /\ P <= 1000000 /\ nn = .int .i64 (N : Int) /\ pp = .int .i64 (P : Int) /\ ii = .int .i64 (k : Int) /\ Hid (N = zn ((bare (bytes s)).take (place p k))) /\ Hid (P = 10 ^ (k - p - 1))) (fun _ _ ii => s.size - (intOf ii).toNat)
      case atStart => exact ⟨0, 0, 1, by omega, by omega, by omega, rfl, rfl, rfl, (by show _ = _; simp [place, zn]), (by show _ = _; simp)⟩
      case round =>
       obtain ⟨k, N, P, hk, hN15, hP6, rfl, rfl, rfl, hNv, hPv⟩ := hrel
       by_cases hlt : k < s.size
       ·obtain ⟨c, hc⟩ : ∃ c : Nat, s[k].toNat = c := ⟨_, rfl⟩
        have HC : Hid (((bytes s).getD k 0).toNat = c) := by show _ = _; rw [yH s k hlt]; exact hc
        have hcl : c < 256 := by rw [<- hc]; exact UInt8.toNat_lt _
        by_cases hkp : k = p
        ·have HN : Hid (N = zn ((bare (bytes s)).take (place p (k + 1)))) := by show _ = _; rw [hkp, zdt, <- hkp]; rw [hNv.out, hkp]
         have HP : Hid (P = 10 ^ (k + 1 - p - 1)) := by show _ = _; rw [hPv.out]; congr 1; omega
         clear hNv hPv
         go_wp2
         go_round
         case rel => exact ⟨k + 1, N, P, by omega, hN15, hP6, rfl, rfl, by go_num, HN, HP⟩
         case measure => simp [intOf]; omega
        ·have hdg := H5.out k hlt hkp
         unfold Dig at hdg
         rw [HC.out] at hdg
         have hst := zds H3.out k (by rw [hbl]; exact hlt) (by rw [H4.out]; exact hkp)
         rw [H4.out, HC.out, <- hNv.out] at hst
         have hlt15 := zfV hlit.out (place p (k + 1))
         rw [hst] at hlt15
         have HN : Hid (N * 10 + (c - 48) = zn ((bare (bytes s)).take (place p (k + 1)))) := hst.symm
         clear hst
         by_cases hgt : p < k
         ·have HP : Hid (10 * P = 10 ^ (k + 1 - p - 1)) := by show _ = _; rw [hPv.out, show k + 1 - p - 1 = (k - p - 1) + 1 by omega, Nat.pow_succ, Nat.mul_comm]
          have hP6' : 10 * P <= 1000000 := by
           rw [HP.out]
           exact zQ (Nat.pow_le_pow_right (by decide) (show k + 1 - p - 1 <= 6 by omega)) (by decide)
          clear hNv hPv
          go_wp2
          go_round
          case rel => exact ⟨k + 1, N * 10 + (c - 48), 10 * P, by omega, hlt15, hP6', by go_num, by go_num, by go_num, HN, HP⟩
          case measure => simp [intOf]; omega
         ·have HP : Hid (P = 10 ^ (k + 1 - p - 1)) := by show _ = _; rw [hPv.out]; congr 1; omega
          clear hNv hPv
          go_wp2
          go_round
          case rel => exact ⟨k + 1, N * 10 + (c - 48), P, by omega, hlt15, hP6, by go_num, rfl, by go_num, HN, HP⟩
          case measure => simp [intOf]; omega
       ·obtain rfl : k = s.size := by omega
        have hNl : Hid (yE (bytes s) = N) := by show _ = _; rw [<- hN.out, hNv.out]
        have hPl : Hid (10 ^ (zu (bytes s)).length = P) := by show _ = _; rw [hPv.out, <- HB.out]; congr 1; omega
        obtain ⟨x, q, hx, hop⟩ := Vg (P := Tryz.prog) w .quo (.inr (.inr (.inr rfl))) (floatOfInt .f64 N) (floatOfInt .f64 P)
        have hx' : yT x = quo N P := hx
        clear hx hNv hPv
        go_wp2_with fail
        refine (zge x _).mono ?_
        rintro e w1 ⟨rfl, rfl⟩
        rw [hx']
        go_wp2
        go_ret2
        exact ⟨.inl ⟨hlit.out, by rw [hNl.out, hPl.out]; rfl⟩, q, rfl⟩
    ·have hno : ¬ yO (bytes s) := by
      intro h
      apply g1
      have e1 := h.1
      have e2 := h.2.1
      have e3 := h.2.2.2.1.1
      rw [<- HB.out] at e1 e2
      rw [H4.out] at e3
      refine ⟨e3, e1, e2, ?_⟩
      rintro ⟨z1, z2⟩
      have e4 := h.2.2.2.1.2.1
      have e5 := (X3 H3.out).2.2.1 0 (by rw [H4.out]; omega)
      rw [<- e5, HC0.out, H4.out] at e4
      have := e4 z1
      omega
     have hz : ((c0 : Int) == 48) = decide (c0 = 48) := by
      by_cases h : c0 = 48
      ·rw [yy h, beq_iff_eq]; omega
      ·rw [zN h, zt]; omega
     by_cases q1 : 1 <= p
     ·by_cases q2 : 1 <= b
      ·by_cases q3 : b <= 6
       ·have q4 : c0 = 48 /\ 1 < p := by
         by_cases q : c0 = 48 /\ 1 < p
         ·exact q
         ·exact absurd ⟨q1, q2, q3, q⟩ g1
        have hz' : ((c0 : Int) == 48) = true := by rw [beq_iff_eq]; omega
        clear g1 hz
        go_wp2
        go_ret2
        exact ⟨.inr ⟨hno, rfl⟩, 0, rfl⟩
       ·clear g1
        go_wp2
        go_ret2
        exact ⟨.inr ⟨hno, rfl⟩, 0, rfl⟩
      ·clear g1
       go_wp2
       go_ret2
       exact ⟨.inr ⟨hno, rfl⟩, 0, rfl⟩
     ·clear g1
      go_wp2
      go_ret2
      exact ⟨.inr ⟨hno, rfl⟩, 0, rfl⟩
def Tab (w : World) : Prop := Lib.TabIs Tryz.prog w "internal/strconv.uint64pow10" .u64 Lib.pow10Tab
def gB : Nat := 7
theorem Tab.below {B : Nat} {w w' : World} (h : Tab w) (hb : Below B w w') (hB : gB <= B) : Tab w' := by
 unfold Tab Lib.TabIs World.var? at *
 obtain ⟨g, hg, hx⟩ := Option.bind_eq_some_iff.1 h
 have hgl : g < gB := by
  have : Tryz.prog.globalNamed "internal/strconv.uint64pow10" = some g := hg
  have h2 : (Tryz.prog.globalNamed "internal/strconv.uint64pow10").all (fun g => decide (g < gB)) = true := by kernel_rfl
  rw [this] at h2
  simpa using h2
 rw [hg, Option.bind_some, hb.block g (by omega)]
 exact hx
theorem zbQ (w : World) (k : Nat) (os : Array Obj) : Below w.heap.size w (Sort.grow (w.drewN k) os) :=
 ⟨rfl, rfl, rfl, by simp [Sort.grow], fun i hi => by simp [Sort.grow, Array.getElem?_append_left hi]⟩
def sgn (b : Nat) : Int := if b < 9223372036854775808 then (b : Int) else (b : Int) - 18446744073709551616
def XA (t b : Nat) : List UInt8 := if t = 1 then Lib.itoa (sgn b) else if t = 2 then Lib.formatBool (decide (b = 1)) else if t = 3 then ZB (yT b) else []
def Js (t b : Nat) : Bool := if t = 1 then decide (b ≠ 9223372036854775808) else if t = 2 then decide (b <= 1) else if t = 3 then ((yT b == b) && !(Lib.hasPrefix (ZB (yT b)) [35])) else false
theorem jb (b : Nat) (hb : b < 18446744073709551616) (w : World) (hT : Tab w) :
  Calls Tryz.prog 146 #[.int .i64 (sgn b), .int .i64 10] w fun e w' => e = .returned (.string ⟨(Lib.itoa (sgn b)).toArray⟩) /\ Below w.heap.size w w' := by
 refine (Tryz.strconv_FormatInt_10 (sgn b) (by unfold sgn; split <;> omega) (by unfold sgn; split <;> omega) w hT).mono ?_
 rintro e w' ⟨rfl, k, os, rfl⟩
 exact ⟨rfl, zbQ w k os⟩
theorem zgQ (b : Nat) (hb : b < 18446744073709551616) : IntKind.i64.wrap (b : Int) = sgn b := by
 rw [IntKind.wrap_i64]
 unfold sgn
 split <;> omega
theorem Ve (t b : Nat) (ht : t < 256) (hb : b < 18446744073709551616) (w : World) (hT : Tab w) (h16 : gB <= w.heap.size) :
  Calls Tryz.prog 112 #[.agg [.int .u8 (t : Int), .int .u64 (b : Int)].toArray] w fun e w' => e = .returned (.tuple #[.string ⟨(XA t b).toArray⟩, .bool (Js t b)]) /\ Below w.heap.size w w' := by
 by_cases h1 : t = 1
 ·subst h1
  have hv : XA 1 b = Lib.itoa (sgn b) := rfl
  have ho : Js 1 b = decide (b ≠ 9223372036854775808) := rfl
  have hcv := zgQ b hb
  have hgt : decide (sgn b > -9223372036854775808) = decide (b ≠ 9223372036854775808) := by
   congr 1
   unfold sgn
   apply propext
   constructor
   ·intro h; split at h <;> omega
   ·intro h; split <;> omega
  have hF : ∀ w, Tab w -> Calls Tryz.prog 146 #[.int .i64 (sgn b), .int .i64 10] w fun e w' => e = .returned (.string ⟨(Lib.itoa (sgn b)).toArray⟩) /\ Below w.heap.size w w' := fun w h => jb b hb w h
  rw [hv, ho]
  obtain ⟨x, hx⟩ : ∃ x, x = sgn b := ⟨_, rfl⟩
  rw [<- hx] at hcv hF hgt ⊢
  obtain ⟨L, hL⟩ : ∃ L, L = Lib.itoa x := ⟨_, rfl⟩
  rw [<- hL] at hF ⊢
  clear hL hv ho hx
  go_enter Tryz.func112, Tryz.ntmps112
  go_wp2_with fail
  refine (hF _ (hT.below ((Below.refl _ w).alloc (zj _) _) h16)).mono ?_
  rintro e w2 ⟨rfl, hb2⟩
  have hgt' : decide (-9223372036854775808 < x) = decide (b ≠ 9223372036854775808) := hgt
  clear hgt hF hcv
  go_wp2
  go_ret2
  exact ⟨by simp, ((Below.refl _ w).alloc (zj _) _).trans (hb2.mono (by simp))⟩
 by_cases h2 : t = 2
 ·subst h2
  have hv : XA 2 b = Lib.formatBool (decide (b = 1)) := rfl
  have ho : Js 2 b = decide (b <= 1) := rfl
  have hbe : ((b : Int) == 1) = decide (b = 1) := by rw [Bool.eq_iff_iff]; simp; omega
  have hbl : decide ((b : Int) <= 1) = decide (b <= 1) := by congr 1; apply propext; omega
  rw [hv, ho]
  obtain ⟨B, hB⟩ : ∃ B, B = decide (b = 1) := ⟨_, rfl⟩
  rw [<- hB] at hbe ⊢
  have hF : ∀ w, Calls Tryz.prog 147 #[.bool B] w fun e w' => e = .returned (.string ⟨(Lib.formatBool B).toArray⟩) /\ w' = w := fun w => Tryz.strconv_FormatBool B w
  obtain ⟨L, hL⟩ : ∃ L, L = Lib.formatBool B := ⟨_, rfl⟩
  rw [<- hL] at hF ⊢
  rw [<- hbl]
  clear hL hv ho hB hbl
  go_enter Tryz.func112, Tryz.ntmps112
  go_wp2_with fail
  go_quiet (first | (go_at_call 147; exact Calls.quiet_of_same (hF _)))
  go_wp2
  go_ret2
  have hx := (Below.refl _ w).alloc (zj _) (.cells #[.int .u8 2, .int .u64 (b : Int)] 40)
  exact ⟨rfl, hx.os, hx.tape, hx.output, hx.size, hx.block⟩
 by_cases h3 : t = 3
 ·subst h3
  have hv : XA 3 b = ZB (yT b) := rfl
  have ho : Js 3 b = ((yT b == b) && !(Lib.hasPrefix (ZB (yT b)) [35])) := rfl
  have hX : ∀ w, Calls Tryz.prog 148 #[.int .u64 (b : Int)] w fun e w' => e = .returned (.string ⟨(ZB (yT b)).toArray⟩) /\ Below w.heap.size w w' := fun w => zdU b hb w
  have hM : ∀ w, Calls Tryz.prog 149 #[.int .u64 (b : Int)] w fun e w' => e = .returned (.bool (yT b == b)) /\ w' = w := fun w => zfv b w hb
  rw [hv, ho]
  obtain ⟨L, hL⟩ : ∃ L, L = ZB (yT b) := ⟨_, rfl⟩
  rw [<- hL] at hX ⊢
  obtain ⟨M, hMM⟩ : ∃ M, M = (yT b == b) := ⟨_, rfl⟩
  rw [<- hMM] at hM ⊢
  clear hL hv ho hMM
  have hP : ∀ w, Calls Tryz.prog 150 #[.string ⟨L.toArray⟩, .string ⟨#[35]⟩] w fun e w' => e = .returned (.bool (Lib.hasPrefix L [35])) /\ w' = w := fun w => Tryz.strings_HasPrefix ⟨L.toArray⟩ ⟨#[35]⟩ w
  go_enter Tryz.func112, Tryz.ntmps112
  go_wp2_with fail
  refine (hX _).mono ?_
  rintro e w2 ⟨rfl, hb2⟩
  have c1 : w2.cell? ⟨w.heap.size, 1, none⟩ = some (.int .u64 (b : Int)) := by
   rw [World.cell?_of_block (hb2.block _ (by simp))]
   simp
  have hbb : Below w.heap.size w w2 := ((Below.refl _ w).alloc (zj _) _).trans (hb2.mono (by simp))
  clear hb2 hX
  cases M with
  | false =>
   go_wp2_with fail
   refine (hM _).mono ?_
   rintro e w' ⟨rfl, rfl⟩
   go_wp2
   go_ret2
   exact ⟨rfl, hbb⟩
  | true =>
   go_wp2_with fail
   refine (hM _).mono ?_
   rintro e w' ⟨rfl, rfl⟩
   go_wp2_with fail
   refine (hP _).mono ?_
   rintro e w' ⟨rfl, rfl⟩
   go_wp2
   go_ret2
   exact ⟨rfl, hbb⟩
 ·have hv : XA t b = [] := by unfold XA; rw [ze h1, ze h2, ze h3]
  have ho : Js t b = false := by unfold Js; rw [ze h1, ze h2, ze h3]
  rw [hv, ho]
  have e1 : ((t : Int) == 1) = false := by rw [zt]; omega
  have e2 : ((t : Int) == 2) = false := by rw [zt]; omega
  have e3 : ((t : Int) == 3) = false := by rw [zt]; omega
  go_enter Tryz.func112, Tryz.ntmps112
  go_wp2
  go_ret2
  exact ⟨rfl, (Below.refl _ w).alloc (zj _) _⟩
def jv (t b : Nat) : Bool := Js t b && !(Lib.hasPrefix (XA t b) [45])
theorem zbw (t b : Nat) (ht : t < 256) (hb : b < 18446744073709551616) (w : World) (hT : Tab w) (h16 : gB <= w.heap.size) :
  Calls Tryz.prog 136 #[.agg [.int .u8 (t : Int), .int .u64 (b : Int)].toArray] w fun e w' => e = .returned (.bool (jv t b)) /\ Below w.heap.size w w' := by
 have hV := fun w hT h16 => Ve t b ht hb w hT h16
 unfold jv
 obtain ⟨L, hL⟩ : ∃ L, L = XA t b := ⟨_, rfl⟩
 obtain ⟨M, hM⟩ : ∃ M, M = Js t b := ⟨_, rfl⟩
 rw [<- hL, <- hM] at hV ⊢
 clear hL hM
 have hP : ∀ w, Calls Tryz.prog 150 #[.string ⟨L.toArray⟩, .string ⟨#[45]⟩] w fun e w' => e = .returned (.bool (Lib.hasPrefix L [45])) /\ w' = w := fun w => Tryz.strings_HasPrefix ⟨L.toArray⟩ ⟨#[45]⟩ w
 go_enter Tryz.func136, Tryz.ntmps136
 go_wp2_with fail
 refine (hV _ (hT.below ((Below.refl _ w).alloc (zj _) _) h16) (by simp; omega)).mono ?_
 rintro e w2 ⟨rfl, hb2⟩
 have hbb : Below w.heap.size w w2 := ((Below.refl _ w).alloc (zj _) _).trans (hb2.mono (by simp))
 clear hV hb2
 cases M with
 | false =>
  go_wp2
  go_ret
  exact ⟨rfl, hbb⟩
 | true =>
  go_wp2_with fail
  refine (hP _).mono ?_
  rintro e w' ⟨rfl, rfl⟩
  go_wp2
  go_ret
  exact ⟨rfl, hbb⟩
inductive ET where
 | mk (op t b : Nat) (nm : ByteArray) (a : Option Addr) (c : Nat) (kids : List ET)
def ET.cells : ET -> List Value
 | .mk op t b nm a c ks => [.int .u8 (op : Int), .int .u8 (t : Int), .int .u64 (b : Int), .string nm, .slice a ks.length c]
mutual
def ET.ex : ET -> Ex
 | .mk op t b nm _ _ ks => .mk op t b nm.data.toList (ET.exs ks)
def ET.exs : List ET -> List Ex
 | [] => []
 | e :: r => e.ex :: ET.exs r
end
mutual
def ET.In (B : Nat) (w : World) : ET -> Prop
 | .mk op t b nm a c ks => op < 256 /\ t < 256 /\ b < 18446744073709551616 /\ ks.length <= 1048576 /\ ks.length <= c /\ (ks = [] \/ ∃ g o, a = some ⟨g, o, none⟩ /\ g < B /\ ET.Row B w g ks o)
def ET.Row (B : Nat) (w : World) (g : Nat) : List ET -> Nat -> Prop
 | [], _ => True
 | e :: r, o => w.rangeAt g o e.cells /\ e.In B w /\ ET.Row B w g r (o + 5)
end
theorem ET.exs_eq : ∀ ks : List ET, ET.exs ks = ks.map ET.ex
 | [] => rfl
 | e :: r => by rw [ET.exs, ET.exs_eq r]; rfl
theorem ET.cells_len (e : ET) : e.cells.length = 5 := by cases e; rfl
def Old (B : Nat) (w w' : World) : Prop := ∀ k, k < B -> w'.heap[k]? = w.heap[k]?
theorem Old.of_below {B C : Nat} {w w' : World} (h : Below C w w') (hB : B <= C) : Old B w w' := fun k hk => h.block k (by omega)
theorem Old.of_wr {B g : Nat} {w w' : World} (h : Wr B g w w') (hB : B <= g) (hw : B <= w.heap.size) : Old B w w' := fun k hk => h.block k (by omega) (by omega) (.inl hk)
theorem Old.trans {B : Nat} {a b c : World} (h : Old B a b) (k : Old B b c) : Old B a c := fun i hi => (k i hi).trans (h i hi)
theorem Old.range {B g o : Nat} {w w' : World} {cs : List Value} (h : Old B w w') (hg : g < B) (hr : w.rangeAt g o cs) : w'.rangeAt g o cs := fun j v hj => by
 rw [World.cell?_of_block (w := w) (w' := w') (h _ hg)]
 exact hr j v hj
mutual
theorem ET.In.old {B : Nat} {w w' : World} (hO : Old B w w') : ∀ {e : ET}, e.In B w -> e.In B w'
 | .mk op t b nm a c ks, h => by
  unfold ET.In at h ⊢
  obtain ⟨h1, h2, h3, h4, h5, h6⟩ := h
  refine ⟨h1, h2, h3, h4, h5, ?_⟩
  rcases h6 with h6 | ⟨g, o, ha, hg, hr⟩
  ·exact .inl h6
  ·exact .inr ⟨g, o, ha, hg, ET.Row.old hO hg hr⟩
theorem ET.Row.old {B : Nat} {w w' : World} (hO : Old B w w') {g : Nat} (hg : g < B) : ∀ {ks : List ET} {o : Nat}, ET.Row B w g ks o -> ET.Row B w' g ks o
 | [], o, _ => trivial
 | e :: r, o, h => by
  unfold ET.Row at h ⊢
  exact ⟨hO.range hg h.1, ET.In.old hO h.2.1, ET.Row.old hO hg h.2.2⟩
end
mutual
theorem ET.In.up {B C : Nat} {w : World} (hBC : B <= C) : ∀ {e : ET}, e.In B w -> e.In C w
 | .mk op t b nm a c ks, h => by
  unfold ET.In at h ⊢
  obtain ⟨h1, h2, h3, h4, h5, h6⟩ := h
  refine ⟨h1, h2, h3, h4, h5, ?_⟩
  rcases h6 with h6 | ⟨g, o, ha, hg, hr⟩
  ·exact .inl h6
  ·exact .inr ⟨g, o, ha, by omega, ET.Row.up hBC hr⟩
theorem ET.Row.up {B C : Nat} {w : World} (hBC : B <= C) {g : Nat} : ∀ {ks : List ET} {o : Nat}, ET.Row B w g ks o -> ET.Row C w g ks o
 | [], o, _ => trivial
 | e :: r, o, h => by
  unfold ET.Row at h ⊢
  exact ⟨h.1, ET.In.up hBC h.2.1, ET.Row.up hBC h.2.2⟩
end
theorem ET.Row.at {B g : Nat} {w : World} : ∀ {ks : List ET} {o : Nat}, ET.Row B w g ks o -> ∀ (i : Nat) (e : ET), ks[i]? = some e -> w.rangeAt g (o + i * 5) e.cells /\ e.In B w
 | [], o, _, i, e, h => by simp at h
 | x :: r, o, hr, 0, e, h => by
  unfold ET.Row at hr
  simp at h
  subst h
  exact ⟨by simpa using hr.1, hr.2.1⟩
 | x :: r, o, hr, i + 1, e, h => by
  unfold ET.Row at hr
  have := ET.Row.at hr.2.2 i e (by simpa using h)
  rw [show o + (i + 1) * 5 = o + 5 + i * 5 by omega]
  exact this
def Z6 : Nat -> Ex -> Bool
 | 0, _ => false
 | h + 1, .mk op t b nm ks => decide ((ks.length : Int) = Vi op) && (if op = 1 then jv t b && decide (nm = []) else if op = 2 then Yg nm && decide (t = 0 /\ b = 0) else ks.all (Z6 h) && (decide (nm = []) && decide (t = 0 /\ b = 0)))
def exT : Ex -> List UInt8
 | .mk op t b nm ks => if op = 1 then XA t b else if op = 2 then nm else
  match ks with
  | [] => []
  | [x] => if op = 16 then 45 :: exT x else if op = 17 then 33 :: exT x else if op = 18 then [105, 110, 116, 40] ++ (exT x ++ [41]) else if op = 19 then [114, 101, 97, 108, 40] ++ (exT x ++ [41]) else []
  | x :: y :: _ => 40 :: (exT x ++ 32 :: (sgT op ++ 32 :: (exT y ++ [41])))
theorem z29 : (Tryz.prog.info? 43).map (fun i => (i.zero, i.size)) = some (some (.agg [.int .u8 0, .int .u8 0, .int .u64 0, .string ⟨#[]⟩, .slice none 0 0].toArray), 5) := by kernel_rfl
theorem i29 : (Tryz.prog.info? 43).map (·.size) = some 5 := by kernel_rfl
theorem ET.one (e : ET) : ∀ v ∈ e.cells, v.oneCell' = true := by
 cases e
 intro v hv
 simp [ET.cells] at hv
 rcases hv with rfl | rfl | rfl | rfl | rfl <;> rfl
def ex5 (op t b : Nat) (nm : ByteArray) (sl : Value) : List Value := [.int .u8 (op : Int), .int .u8 (t : Int), .int .u64 (b : Int), .string nm, sl]
theorem Zb {B : Nat} {w w' : World} (h : Below B w w') (n : Nat) : Below B w (w'.drewN n) := ⟨h.os, h.tape, h.output, h.size, h.block⟩
theorem zhr (t b : Nat) (u : World) : (Op.equalIn 10000 40 (.agg #[.int .u8 (t : Int), .int .u64 (b : Int)]) (.agg #[.int .u8 0, .int .u64 0])).run Tryz.prog u = .ok (decide (t = 0 /\ b = 0)) u := by
 by_cases h1 : t = 0
 ·subst h1
  by_cases h2 : b = 0
  ·subst h2
   go_simp
  ·have e2 : ((b : Int) == 0) = false := by rw [zt]; omega
   go_simp
 ·have e1 : ((t : Int) == 0) = false := by rw [zt]; omega
  go_simp
theorem zd {p : Prop} (h : p) : Hid p := h
theorem emp (nm : ByteArray) : nm.toList.isEmpty = decide (nm.data.toList = []) := by
 by_cases h : nm.size = 0
 ·rw [VY h]
  have : nm.data.toList = [] := List.length_eq_zero_iff.1 (by rw [Array.length_toList]; exact h)
  simp [this]
 ·rw [Xi (Nat.pos_of_ne_zero h)]
  have : ¬ nm.data.toList = [] := fun he => h (by have := congrArg List.length he; rw [Array.length_toList] at this; exact this)
  simp [this]
theorem zay (h : Nat) : ∀ (e : ET) (w : World) (B : Nat), h <= 32 -> e.In B w -> B <= w.heap.size -> Tab w -> gB <= w.heap.size ->
  Calls Tryz.prog 105 #[.agg e.cells.toArray, .int .i64 (h : Int)] w fun r w' => r = .returned (.bool (Z6 h e.ex)) /\ Below w.heap.size w w' := by
 induction h with
 | zero =>
  rintro ⟨op, t, b, nm, a, c, ks⟩ w B hh hin hBw hT h16
  have hm : Z6 0 (ET.mk op t b nm a c ks).ex = false := rfl
  rw [hm]
  clear hm hin
  go_enter Tryz.func105, Tryz.ntmps105
  go_wp2_with (first | (refine zeS rfl rfl (ex5 op t b nm (.slice a ks.length c)) rfl ?_; intro w1 hA1 hb1 hs1))
  go_quiet (fail)
  go_wp2
  go_ret
  exact ⟨rfl, Zb hb1 _⟩
 | succ h ih =>
  rintro ⟨op, t, b, nm, a, c, ks⟩ w B hh hin hBw hT h16
  unfold ET.In at hin
  obtain ⟨h1, h2, h3, h4, h5, h6⟩ := hin
  have hO := qh op
  obtain ⟨n, hn⟩ : ∃ n, Hid (n = ks.length) := ⟨_, (rfl : ks.length = _)⟩
  obtain ⟨K, hK⟩ : ∃ K, Hid (K = Vi op) := ⟨_, (rfl : Vi op = _)⟩
  rw [<- hK.out] at hO
  show Calls Tryz.prog 105 #[.agg (ex5 op t b nm (.slice a ks.length c)).toArray, .int .i64 ((h + 1 : Nat) : Int)] w _
  rw [<- hn.out] at h4 h5 ⊢
  have hh1 : (((h + 1 : Nat) : Int) == 0) = false := by rw [zt]; omega
  obtain ⟨H, hH⟩ : ∃ H : Int, H = ((h + 1 : Nat) : Int) := ⟨_, rfl⟩
  rw [<- hH] at hh1 ⊢
  have hH1 : IntKind.i64.wrap (H - 1) = (h : Int) := by rw [IntKind.wrap_i64]; omega
  have hm : Z6 (h + 1) (ET.mk op t b nm a c ks).ex = (decide ((n : Int) = K) && (if op = 1 then jv t b && decide (nm.data.toList = []) else if op = 2 then Yg nm.data.toList && decide (t = 0 /\ b = 0) else (ks.map ET.ex).all (Z6 h) && (decide (nm.data.toList = []) && decide (t = 0 /\ b = 0)))) := by
   show Z6 (h + 1) (.mk op t b nm.data.toList (ET.exs ks)) = _
   rw [Z6, ET.exs_eq, Ze, <- hn.out, <- hK.out]
  obtain ⟨R, hR⟩ : ∃ R, Hid (R = (decide ((n : Int) = K) && (if op = 1 then jv t b && decide (nm.data.toList = []) else if op = 2 then Yg nm.data.toList && decide (t = 0 /\ b = 0) else (ks.map ET.ex).all (Z6 h) && (decide (nm.data.toList = []) && decide (t = 0 /\ b = 0))))) := ⟨_, (rfl : _ = _)⟩
  rw [hm, <- hR.out]
  clear hm hH
  go_enter Tryz.func105, Tryz.ntmps105
  go_wp2_with (first | (refine zeS rfl rfl (ex5 op t b nm (.slice a n c)) rfl ?_; intro w1 hA1 hb1 hs1))
  have c0 : w1.cell? ⟨w.heap.size, 0, none⟩ = some (.int .u8 (op : Int)) := by rw [hA1.cell]; rfl
  have c1 : w1.cell? ⟨w.heap.size, 1, none⟩ = some (.int .u8 (t : Int)) := by rw [hA1.cell]; rfl
  have c2 : w1.cell? ⟨w.heap.size, 2, none⟩ = some (.int .u64 (b : Int)) := by rw [hA1.cell]; rfl
  have c3 : w1.cell? ⟨w.heap.size, 3, none⟩ = some (.string nm) := by rw [hA1.cell]; rfl
  have c4 : w1.cell? ⟨w.heap.size, 4, none⟩ = some (.slice a n c) := by rw [hA1.cell]; rfl
  have hq := zhr t b
  by_cases hk : (n : Int) = K
  ·subst hk
   have hd : decide ((n : Int) = (n : Int)) = true := by simp
   rw [hd, Bool.true_and] at hR
   clear hd
   go_quiet (first | (go_at_call 135; exact Calls.quiet_of_same (hO _)))
   clear hO
   by_cases ho1 : op = 1
   ·rw [zi ho1] at hR
    subst ho1
    have hL := fun w hT h16 => zbw t b h2 h3 w hT h16
    clear hq ih h6
    go_wp2_with fail
    refine (hL _ (hT.below (Zb hb1 _) h16) (by show gB <= w1.heap.size; omega)).mono ?_
    rintro e w2 ⟨rfl, hb2⟩
    have c3' : w2.cell? ⟨w.heap.size, 3, none⟩ = some (.string nm) := by rw [((hA1.drewN nq).below hb2).cell]; rfl
    have hbb : Below w.heap.size w w2 := (Zb hb1 _).trans (hb2.mono (by show w.heap.size <= w1.heap.size; omega))
    clear hb2 hA1 hb1 hL c0 c1 c2 c3 c4
    cases hM : jv t b with
    | false =>
     rw [hM, Bool.false_and] at hR
     go_wp2
     go_ret
     exact ⟨by rw [hR.out]; rfl, hbb⟩
    | true =>
     rw [hM, Bool.true_and] at hR
     clear hM
     have hem := emp nm
     rw [<- hR.out] at hem
     go_wp2
     go_ret
     exact ⟨rfl, hbb⟩
   by_cases ho2 : op = 2
   ·rw [ze ho1, zi ho2] at hR
    subst ho2
    have hN := fun w => Ko nm w
    clear ih h6
    go_wp2_with fail
    refine (hN _).mono ?_
    rintro e w2 ⟨rfl, hw2⟩
    have hw2' := hw2.symm
    subst hw2'
    clear hN c0 c3 c4
    have hbb := Zb hb1 nq
    unfold bytes
    cases hM : Yg nm.data.toList with
    | false =>
     rw [hM, Bool.false_and] at hR
     go_wp2
     go_ret
     exact ⟨by rw [hR.out]; rfl, hbb⟩
    | true =>
     rw [hM, Bool.true_and] at hR
     clear hM
     go_wp2
     go_ret
     exact ⟨by rw [hR.out, Bool.decide_and]; rfl, hbb⟩
   ·rw [ze ho1, ze ho2] at hR
    have e1 : ((op : Int) == 1) = false := by rw [zt]; omega
    have e2 : ((op : Int) == 2) = false := by rw [zt]; omega
    have hem := emp nm
    go_wp2_with fail
    have H6 : Hid (ks = [] \/ ∃ g o, a = some ⟨g, o, none⟩ /\ g < B /\ ET.Row B w g ks o) := h6
    have HB0 : Hid (Below w.heap.size w (w1.drewN nq) /\ At 43 (w1.drewN nq) w.heap.size (ex5 op t b nm (.slice a n c))) := ⟨Zb hb1 _, hA1.drewN _⟩
    clear h6 hb1 hA1 c0 c1 c2 c3 c4 e1 e2 ho1 ho2
    go_loopw [44] (fun j wr => ∃ i : Nat, j = .int .i64 (i : Int) /\ i <= n /\ Hid (Below w.heap.size w wr /\ At 43 wr w.heap.size (ex5 op t b nm (.slice a n c)) /\ ∀ x ∈ (ks.take i).map ET.ex, Z6 h x = true)) (fun j _ => n - (intOf j).toNat)
    case atStart => exact ⟨0, rfl, by omega, HB0.out.1, HB0.out.2, by simp⟩
    case round =>
     obtain ⟨i, rfl, hi, hX⟩ := hrel
     by_cases hc : i < n
     ·obtain ⟨k, hk⟩ : ∃ k, ks[i]? = some k := ⟨ks[i]'(by rw [<- hn.out]; exact hc), by rw [yD]⟩
      obtain ⟨hbw, hAr, hall⟩ := hX.out
      obtain ⟨g, o, ha, hg, hrow⟩ : ∃ g o, a = some ⟨g, o, none⟩ /\ g < B /\ ET.Row B w g ks o := by
       rcases H6.out with h | h
       ·rw [h] at hk; simp at hk
       ·exact h
      subst ha
      have hold : Old B w wr := Old.of_below hbw hBw
      obtain ⟨hrg, hkin⟩ := (ET.Row.old hold hg hrow).at i k hk
      have hb16 : gB <= wr.heap.size := by have := hbw.size; omega
      have HK : Hid (k.In B wr /\ B <= wr.heap.size /\ Tab wr) := ⟨hkin, by have := hbw.size; omega, hT.below hbw h16⟩
      have HY : Hid (Below w.heap.size w wr /\ At 43 wr w.heap.size (ex5 op t b nm (.slice (some ⟨g, o, none⟩) n c)) /\ ∀ x ∈ (ks.take i).map ET.ex, Z6 h x = true) := ⟨hbw, hAr, hall⟩
      clear hX hkin hall hrow hold hbw hAr H6 HB0 hem hq
      go_wp2_with (first
       | (refine wpList_load_mid (P := Tryz.prog) rfl 43 (.tmp 46) rfl g (o + i * 5) (by first | rfl | (simp; done)) k.cells _ hrg zR rfl (by rw [ET.cells_len]; exact i29) ?_)
       | (refine zD rfl rfl z29 ?_; intro w2 hA2 hb2 hs2)
       | (refine zl rfl rfl hA2 k.cells rfl rfl (by rw [ET.cells_len]; exact i29) (by rw [ET.cells_len]; rfl) k.one ?_; intro w3 hA3 hb3 hs3; refine zb ?_))
      refine zd ?_
      have hB3 : Below wr.heap.size wr w3 := hb3.below hb2 (zj _) (by omega)
      obtain ⟨hkin, hBwr, hTwr⟩ := HK.out
      have hk3 : k.In B w3 := hkin.old (Old.of_below hB3 hBwr)
      have hI := ih k w3 B (by omega) hk3 (by omega) (hTwr.below hB3 hb16) (by omega)
      clear hb3 hb2 hA2 HK hkin hk3 ih hTwr
      go_wp2_with (first | (refine lL rfl rfl hA3 rfl zR rfl (by rw [ET.cells_len]; exact i29) ?_))
      refine hI.mono ?_
      rintro e w4 ⟨rfl, hb4⟩
      have HZ : Hid (Below w.heap.size w w4 /\ At 43 w4 w.heap.size (ex5 op t b nm (.slice (some ⟨g, o, none⟩) n c)) /\ ∀ x ∈ (ks.take i).map ET.ex, Z6 h x = true) := by
       obtain ⟨q1, q2, q3⟩ := HY.out
       have hb5 : Below wr.heap.size wr w4 := hB3.trans (hb4.mono hB3.size)
       exact ⟨q1.trans (hb5.mono q1.size), q2.below hb5, q3⟩
      clear hI hb4 hB3 HY hA3 hrg
      cases hM : Z6 h k.ex with
      | false =>
       have hRf : R = false := by
        rw [hR.out]
        have : (ks.map ET.ex).all (Z6 h) = false := by
         rw [List.all_eq_false]
         exact ⟨k.ex, List.mem_map.2 ⟨k, List.mem_of_getElem? hk, rfl⟩, by rw [hM]; simp⟩
        rw [this, Bool.false_and]
       clear hM
       go_wp2
       go_ret
       exact ⟨by rw [hRf]; rfl, HZ.out.1⟩
      | true =>
       go_wp2
       go_roundw
       case rel =>
        refine ⟨i + 1, by go_num, by omega, ?_⟩
        obtain ⟨q1, q2, q3⟩ := HZ.out
        refine ⟨q1, q2, fun x hx => ?_⟩
        rw [List.take_add_one, hk, List.map_append, List.mem_append] at hx
        rcases hx with hx | hx
        ·exact q3 x hx
        ·simp at hx; rw [hx]; exact hM
       case measure => simp [intOf]; omega
     ·have hin : i = n := by omega
      obtain ⟨q1, q2, q3⟩ := hX.out
      have hall : (ks.map ET.ex).all (Z6 h) = true := by
       rw [List.all_eq_true]
       intro x hx
       apply q3 x
       rw [hin, hn.out, List.take_length]
       exact hx
      rw [hall, Bool.true_and] at hR
      have c1 : wr.cell? ⟨w.heap.size, 1, none⟩ = some (.int .u8 (t : Int)) := by rw [q2.cell]; rfl
      have c2 : wr.cell? ⟨w.heap.size, 2, none⟩ = some (.int .u64 (b : Int)) := by rw [q2.cell]; rfl
      have c3 : wr.cell? ⟨w.heap.size, 3, none⟩ = some (.string nm) := by rw [q2.cell]; rfl
      have HQ : Hid (Below w.heap.size w wr) := q1
      clear q1 q2 q3 hX hall hin H6 HB0 ih
      cases hM : decide (nm.data.toList = []) with
      | false =>
       rw [hM] at hR hem
       clear hM
       go_wp2
       go_ret
       exact ⟨by rw [hR.out]; rfl, HQ.out⟩
      | true =>
       rw [hM] at hR hem
       clear hM
       go_wp2
       go_ret
       exact ⟨by rw [hR.out, Bool.decide_and]; rfl, HQ.out⟩
  ·have hk' : ((n : Int) == K) = false := by rw [zt]; exact hk
   have hd : decide ((n : Int) = K) = false := by simpa using hk
   rw [hd, Bool.false_and] at hR
   clear hk hd
   go_quiet (first | (go_at_call 135; exact Calls.quiet_of_same (hO _)))
   go_wp2
   go_ret
   exact ⟨by rw [hR.out]; rfl, Zb hb1 _⟩
section
variable {ops : Array Oper} {rest : List Oper} {o : Oper} {a : Act} {w : World} {Q : Exit -> Act -> World -> Prop}
theorem Yt (hgd : o.guard = none) (n : Nat) (parts : Array (Nat × Operand)) (ho : o.op = .buildSlice 23 n parts) (ss : List ByteArray) (hn : n = ss.length) (h0 : 0 < n) (h1 : n <= 1000)
  (hf : Instr.fill (fun i => some (i * 1, 1)) ((Array.range (n * 1)).map ((Value.string ⟨#[]⟩).cells[· % (Value.string ⟨#[]⟩).cells.size]!)) (parts.map fun (i, x) => (i, a.eval x)).toList = some (ss.map Value.string).toArray)
  (h : ∀ w', At 9 w' w.heap.size (ss.map .string) -> Below w.heap.size w w' -> w'.heap.size = w.heap.size + 1 -> wpList Tryz.prog ops Q rest (a.put o.dst (.slice (some ⟨w.heap.size, 0, none⟩) ss.length ss.length)) w') :
  wpList Tryz.prog ops Q (o :: rest) a w := by
 obtain ⟨ie, hi, hz0, hz1, hz2⟩ := info_parts i9s
 refine wpList_buildSlice hgd 23 9 n parts ho (ss.map Value.string).toArray ie (.string ⟨#[]⟩) Tryz.underlying23 hi hz0 (by rw [hz1]; omega) (by rw [hz1]; omega) (by rw [hz1]; exact hf) ?_
 rw [hn]
 exact h _ (_root_.Go.heap_alloc_new w _) ((Below.refl _ w).alloc (zj _) _) (by show (w.heap.push _).size = _; simp)
end
def YF (B g m : Nat) (e : ET) : Prop := ∀ (w : World) (F : List UInt8), e.In B w -> Txt B w g m F -> B <= w.heap.size -> Tab w -> (F ++ exT e.ex).length <= 70368744177664 ->
  Calls Tryz.prog 106 #[.pointer (some ⟨g, 0, none⟩), .agg e.cells.toArray] w fun r w' => r = .returned (.tuple #[]) /\ Txt B w' g m (F ++ exT e.ex) /\ Wr B g w w'
theorem Tab.wr {B g : Nat} {w w' : World} (h : Tab w) (hw : Wr B g w w') (hB : B <= g) (hBw : B <= w.heap.size) (h16 : gB <= B) : Tab w' := h.below (hw.below hB hBw) h16
theorem YN (B g m : Nat) (e : ET) (hm : m <= 9223372036854775807) (h16 : gB <= B) (hE : YF B g m e) (s1 s2 : ByteArray) (w : World) (F : List UInt8) (hin : e.In B w) (hT : Txt B w g m F) (hBw : B <= w.heap.size) (hTab : Tab w)
  (hlen : (F ++ (s1.data.toList ++ (exT e.ex ++ s2.data.toList))).length <= 70368744177664) :
  Calls Tryz.prog 137 #[.pointer (some ⟨g, 0, none⟩), .string s1, .agg e.cells.toArray, .string s2] w fun r w' => r = .returned (.tuple #[]) /\ Txt B w' g m (F ++ (s1.data.toList ++ (exT e.ex ++ s2.data.toList))) /\ Wr B g w w' := by
 have hBg := hT.base
 have hgw := hT.lt
 obtain ⟨X, hX⟩ : ∃ X, Hid (X = exT e.ex) := ⟨_, (rfl : exT e.ex = _)⟩
 have HE : Hid (∀ (w : World) (F : List UInt8), e.In B w -> Txt B w g m F -> B <= w.heap.size -> Tab w -> (F ++ X).length <= 70368744177664 -> Calls Tryz.prog 106 #[.pointer (some ⟨g, 0, none⟩), .agg e.cells.toArray] w fun r w' => r = .returned (.tuple #[]) /\ Txt B w' g m (F ++ X) /\ Wr B g w w') := by
  rw [hX.out]; exact hE
 rw [<- hX.out] at hlen ⊢
 simp only [yN] at hlen
 have HI : Hid (e.In B w /\ Tab w /\ Txt B w g m F) := ⟨hin, hTab, hT⟩
 clear hE hin hTab hT
 go_enter Tryz.func137, Tryz.ntmps137
 go_wp2_with (first
  | (refine yF rfl rfl e.cells rfl ?_; intro w1 hA1 hb1)
  | (refine Yt rfl 1 #[(0, .tmp 9)] rfl [s1] rfl (by decide) (by decide) (by kernel_rfl) ?_; intro w2 hA2 hb2 hs2; clear hs2))
 have hT2 : Txt B w2 g m F := (HI.out.2.2.below hb1).below hb2
 have hA12 := hA1.below hb2
 have hbw2 : Below w.heap.size w w2 := hb1.trans (hb2.mono hb1.size)
 refine (VS B g m _ [s1] F _ hm hT2 hA2 (by simp only [cat, Yi, List.map_nil, List.flatten_cons, List.flatten_nil, List.append_nil, yN]; omega) (by simp)).mono ?_
 rintro r w3 ⟨rfl, hT3, hW3⟩
 have hA3 := hW3.at hA12 (by omega) (by decide)
 have e3 : F ++ cat [s1] = F ++ s1.data.toList := by simp [cat]
 rw [e3] at hT3
 have hw3 : Wr B g w w3 := (Wr.of_below hbw2).trans hW3
 have hI3 := HE.out w3 _ (HI.out.1.old (Old.of_wr hw3 hBg hBw)) hT3 (by have := hw3.size; omega) (HI.out.2.1.wr hw3 hBg hBw h16) (by simp only [yN]; omega)
 clear hT2 hA12 hW3 hA1 hA2 hb1 hb2 hbw2 e3 HE
 go_wp2_with (first
  | (refine lL rfl rfl hA3 rfl zR rfl (by rw [ET.cells_len]; exact i29) ?_))
 refine hI3.mono ?_
 rintro r w4 ⟨rfl, hT4, hW4⟩
 have hw4 := hw3.trans hW4
 clear hI3 hA3 hT3 hw3 hW4
 go_wp2_with (first
  | (refine Yt rfl 1 #[(0, .tmp 16)] rfl [s2] rfl (by decide) (by decide) (by kernel_rfl) ?_; intro w5 hA5 hb5 hs5; clear hs5))
 refine (VS B g m _ [s2] _ _ hm (hT4.below hb5) hA5 (by simp only [cat, Yi, List.map_nil, List.flatten_cons, List.flatten_nil, List.append_nil, yN]; omega) (by simp)).mono ?_
 rintro r w6 ⟨rfl, hT6, hW6⟩
 have HF : Hid (Txt B w6 g m (F ++ (s1.data.toList ++ (X ++ s2.data.toList))) /\ Wr B g w w6) := by
  refine ⟨?_, hw4.trans ((Wr.of_below hb5).trans hW6)⟩
  have e : F ++ s1.data.toList ++ X ++ cat [s2] = F ++ (s1.data.toList ++ (X ++ s2.data.toList)) := by simp [cat]
  rw [<- e]
  exact hT6
 clear hT6 hW6 hw4 hT4 hA5 hb5
 go_wp2
 go_end0
 exact ⟨rfl, HF.out⟩
theorem zee {h op t b : Nat} {nm : List UInt8} {ks : List Ex} (hm : Z6 (h + 1) (.mk op t b nm ks) = true) : (ks.length : Int) = Vi op := by
 rw [Z6, yX] at hm
 exact of_decide_eq_true hm.1
theorem zcY {h op t b : Nat} {nm : List UInt8} {ks : List Ex} (hm : Z6 (h + 1) (.mk op t b nm ks) = true) (h1 : op ≠ 1) (h2 : op ≠ 2) : ∀ x ∈ ks, Z6 h x = true := by
 rw [Z6, ze h1, ze h2, yX, yX] at hm
 exact List.all_eq_true.1 hm.2.1
theorem ET.kid1 {B : Nat} {w : World} {op t b c : Nat} {nm : ByteArray} {a : Option Addr} {x : ET} (h : (ET.mk op t b nm a c [x]).In B w) : ∃ g o, a = some ⟨g, o, none⟩ /\ g < B /\ w.rangeAt g o x.cells /\ x.In B w /\ 1 <= c := by
 unfold ET.In at h
 obtain ⟨_, _, _, _, hc, h | ⟨g, o, ha, hg, hr⟩⟩ := h
 ·cases h
 ·unfold ET.Row at hr
  exact ⟨g, o, ha, hg, hr.1, hr.2.1, hc⟩
theorem ET.kid2 {B : Nat} {w : World} {op t b c : Nat} {nm : ByteArray} {a : Option Addr} {x y : ET} (h : (ET.mk op t b nm a c [x, y]).In B w) : ∃ g o, a = some ⟨g, o, none⟩ /\ g < B /\ w.rangeAt g o x.cells /\ w.rangeAt g (o + 5) y.cells /\ x.In B w /\ y.In B w /\ 2 <= c := by
 unfold ET.In at h
 obtain ⟨_, _, _, _, hc, h | ⟨g, o, ha, hg, hr⟩⟩ := h
 ·cases h
 ·unfold ET.Row at hr
  obtain ⟨h1, h2, h3⟩ := hr
  unfold ET.Row at h3
  exact ⟨g, o, ha, hg, h1, h3.1, h2, h3.2.1, hc⟩
theorem zde (B g m : Nat) (hm : m <= 9223372036854775807) (h16 : gB <= B) (nm : ByteArray) (a : Option Addr) (c : Nat) (x : ET) (hE : YF B g m x) (t b : Nat) : YF B g m (.mk 16 t b nm a c [x]) := by
 intro w F hin hT hBw hTab hlen
 obtain ⟨gk, o, rfl, hgk, hrg, hx, hc⟩ := ET.kid1 hin
 have hBg := hT.base
 have hgw := hT.lt
 have hX : exT (ET.mk 16 t b nm (some ⟨gk, o, none⟩) c [x]).ex = [45] ++ (exT x.ex ++ []) := by
  show exT (.mk 16 t b nm.data.toList [x.ex]) = _
  simp [exT]
 rw [hX] at hlen ⊢
 have hA := fun w hin hT hBw hTab => YN B g m x hm h16 hE ⟨#[45]⟩ ⟨#[]⟩ w F hin hT hBw hTab hlen
 have HI : Hid (x.In B w /\ Tab w /\ Txt B w g m F /\ w.rangeAt gk o x.cells) := ⟨hx, hTab, hT, hrg⟩
 show Calls Tryz.prog 106 #[.pointer (some ⟨g, 0, none⟩), .agg (ex5 16 t b nm (.slice (some ⟨gk, o, none⟩) 1 c)).toArray] w _
 clear hin hX hE hT hTab hx hrg
 go_enter Tryz.func106, Tryz.ntmps106
 go_wp2_with (first
  | (refine yF rfl rfl (ex5 16 t b nm (.slice (some ⟨gk, o, none⟩) 1 c)) rfl ?_; intro w1 hA1 hb1; refine zb ?_))
 refine zd ?_
 have c0 : w1.cell? ⟨w.heap.size, 0, none⟩ = some (.int .u8 16) := by rw [hA1.cell]; rfl
 have c4 : w1.cell? ⟨w.heap.size, 4, none⟩ = some (.slice (some ⟨gk, o, none⟩) 1 c) := by rw [hA1.cell]; rfl
 obtain ⟨q1, q2, q3, q4⟩ := HI.out
 have hr1 : w1.rangeAt gk o x.cells := Old.range (Old.of_below hb1 hBw) hgk q4
 have hA' := hA w1 (q1.old (Old.of_below hb1 hBw)) (q3.below hb1) (by have := hb1.size; omega) (q2.below hb1 (by omega))
 clear hA q1 q2 q3 q4 HI hA1
 go_wp2_with (first
  | (refine wpList_load_mid (P := Tryz.prog) rfl 43 (.tmp 50) rfl gk o (by first | rfl | (simp; done)) x.cells _ hr1 zR rfl (by rw [ET.cells_len]; exact i29) ?_))
 refine hA'.mono ?_
 rintro r w2 ⟨rfl, hT2, hW2⟩
 have HF : Hid (Txt B w2 g m (F ++ ([45] ++ (exT x.ex ++ []))) /\ Wr B g w w2) := ⟨hT2, (Wr.of_below hb1).trans hW2⟩
 clear hA' hT2 hW2 hr1
 go_wp2
 go_end0
 exact ⟨rfl, HF.out⟩
theorem zdd (B g m : Nat) (hm : m <= 9223372036854775807) (h16 : gB <= B) (nm : ByteArray) (a : Option Addr) (c : Nat) (x : ET) (hE : YF B g m x) (t b : Nat) : YF B g m (.mk 17 t b nm a c [x]) := by
 intro w F hin hT hBw hTab hlen
 obtain ⟨gk, o, rfl, hgk, hrg, hx, hc⟩ := ET.kid1 hin
 have hBg := hT.base
 have hgw := hT.lt
 have hX : exT (ET.mk 17 t b nm (some ⟨gk, o, none⟩) c [x]).ex = [33] ++ (exT x.ex ++ []) := by
  show exT (.mk 17 t b nm.data.toList [x.ex]) = _
  simp [exT]
 rw [hX] at hlen ⊢
 have hA := fun w hin hT hBw hTab => YN B g m x hm h16 hE ⟨#[33]⟩ ⟨#[]⟩ w F hin hT hBw hTab hlen
 have HI : Hid (x.In B w /\ Tab w /\ Txt B w g m F /\ w.rangeAt gk o x.cells) := ⟨hx, hTab, hT, hrg⟩
 show Calls Tryz.prog 106 #[.pointer (some ⟨g, 0, none⟩), .agg (ex5 17 t b nm (.slice (some ⟨gk, o, none⟩) 1 c)).toArray] w _
 clear hin hX hE hT hTab hx hrg
 go_enter Tryz.func106, Tryz.ntmps106
 go_wp2_with (first
  | (refine yF rfl rfl (ex5 17 t b nm (.slice (some ⟨gk, o, none⟩) 1 c)) rfl ?_; intro w1 hA1 hb1; refine zb ?_))
 refine zd ?_
 have c0 : w1.cell? ⟨w.heap.size, 0, none⟩ = some (.int .u8 17) := by rw [hA1.cell]; rfl
 have c4 : w1.cell? ⟨w.heap.size, 4, none⟩ = some (.slice (some ⟨gk, o, none⟩) 1 c) := by rw [hA1.cell]; rfl
 obtain ⟨q1, q2, q3, q4⟩ := HI.out
 have hr1 : w1.rangeAt gk o x.cells := Old.range (Old.of_below hb1 hBw) hgk q4
 have hA' := hA w1 (q1.old (Old.of_below hb1 hBw)) (q3.below hb1) (by have := hb1.size; omega) (q2.below hb1 (by omega))
 clear hA q1 q2 q3 q4 HI hA1
 go_wp2_with (first
  | (refine wpList_load_mid (P := Tryz.prog) rfl 43 (.tmp 58) rfl gk o (by first | rfl | (simp; done)) x.cells _ hr1 zR rfl (by rw [ET.cells_len]; exact i29) ?_))
 refine hA'.mono ?_
 rintro r w2 ⟨rfl, hT2, hW2⟩
 have HF : Hid (Txt B w2 g m (F ++ ([33] ++ (exT x.ex ++ []))) /\ Wr B g w w2) := ⟨hT2, (Wr.of_below hb1).trans hW2⟩
 clear hA' hT2 hW2 hr1
 go_wp2
 go_end0
 exact ⟨rfl, HF.out⟩
theorem zdc (B g m : Nat) (hm : m <= 9223372036854775807) (h16 : gB <= B) (nm : ByteArray) (a : Option Addr) (c : Nat) (x : ET) (hE : YF B g m x) (t b : Nat) : YF B g m (.mk 18 t b nm a c [x]) := by
 intro w F hin hT hBw hTab hlen
 obtain ⟨gk, o, rfl, hgk, hrg, hx, hc⟩ := ET.kid1 hin
 have hBg := hT.base
 have hgw := hT.lt
 have hX : exT (ET.mk 18 t b nm (some ⟨gk, o, none⟩) c [x]).ex = [105, 110, 116, 40] ++ (exT x.ex ++ [41]) := by
  show exT (.mk 18 t b nm.data.toList [x.ex]) = _
  simp [exT]
 rw [hX] at hlen ⊢
 have hA := fun w hin hT hBw hTab => YN B g m x hm h16 hE ⟨#[105, 110, 116, 40]⟩ ⟨#[41]⟩ w F hin hT hBw hTab hlen
 have HI : Hid (x.In B w /\ Tab w /\ Txt B w g m F /\ w.rangeAt gk o x.cells) := ⟨hx, hTab, hT, hrg⟩
 show Calls Tryz.prog 106 #[.pointer (some ⟨g, 0, none⟩), .agg (ex5 18 t b nm (.slice (some ⟨gk, o, none⟩) 1 c)).toArray] w _
 clear hin hX hE hT hTab hx hrg
 go_enter Tryz.func106, Tryz.ntmps106
 go_wp2_with (first
  | (refine yF rfl rfl (ex5 18 t b nm (.slice (some ⟨gk, o, none⟩) 1 c)) rfl ?_; intro w1 hA1 hb1; refine zb ?_))
 refine zd ?_
 have c0 : w1.cell? ⟨w.heap.size, 0, none⟩ = some (.int .u8 18) := by rw [hA1.cell]; rfl
 have c4 : w1.cell? ⟨w.heap.size, 4, none⟩ = some (.slice (some ⟨gk, o, none⟩) 1 c) := by rw [hA1.cell]; rfl
 obtain ⟨q1, q2, q3, q4⟩ := HI.out
 have hr1 : w1.rangeAt gk o x.cells := Old.range (Old.of_below hb1 hBw) hgk q4
 have hA' := hA w1 (q1.old (Old.of_below hb1 hBw)) (q3.below hb1) (by have := hb1.size; omega) (q2.below hb1 (by omega))
 clear hA q1 q2 q3 q4 HI hA1
 go_wp2_with (first
  | (refine wpList_load_mid (P := Tryz.prog) rfl 43 (.tmp 66) rfl gk o (by first | rfl | (simp; done)) x.cells _ hr1 zR rfl (by rw [ET.cells_len]; exact i29) ?_))
 refine hA'.mono ?_
 rintro r w2 ⟨rfl, hT2, hW2⟩
 have HF : Hid (Txt B w2 g m (F ++ ([105, 110, 116, 40] ++ (exT x.ex ++ [41]))) /\ Wr B g w w2) := ⟨hT2, (Wr.of_below hb1).trans hW2⟩
 clear hA' hT2 hW2 hr1
 go_wp2
 go_end0
 exact ⟨rfl, HF.out⟩
theorem zdb (B g m : Nat) (hm : m <= 9223372036854775807) (h16 : gB <= B) (nm : ByteArray) (a : Option Addr) (c : Nat) (x : ET) (hE : YF B g m x) (t b : Nat) : YF B g m (.mk 19 t b nm a c [x]) := by
 intro w F hin hT hBw hTab hlen
 obtain ⟨gk, o, rfl, hgk, hrg, hx, hc⟩ := ET.kid1 hin
 have hBg := hT.base
 have hgw := hT.lt
 have hX : exT (ET.mk 19 t b nm (some ⟨gk, o, none⟩) c [x]).ex = [114, 101, 97, 108, 40] ++ (exT x.ex ++ [41]) := by
  show exT (.mk 19 t b nm.data.toList [x.ex]) = _
  simp [exT]
 rw [hX] at hlen ⊢
 have hA := fun w hin hT hBw hTab => YN B g m x hm h16 hE ⟨#[114, 101, 97, 108, 40]⟩ ⟨#[41]⟩ w F hin hT hBw hTab hlen
 have HI : Hid (x.In B w /\ Tab w /\ Txt B w g m F /\ w.rangeAt gk o x.cells) := ⟨hx, hTab, hT, hrg⟩
 show Calls Tryz.prog 106 #[.pointer (some ⟨g, 0, none⟩), .agg (ex5 19 t b nm (.slice (some ⟨gk, o, none⟩) 1 c)).toArray] w _
 clear hin hX hE hT hTab hx hrg
 go_enter Tryz.func106, Tryz.ntmps106
 go_wp2_with (first
  | (refine yF rfl rfl (ex5 19 t b nm (.slice (some ⟨gk, o, none⟩) 1 c)) rfl ?_; intro w1 hA1 hb1; refine zb ?_))
 refine zd ?_
 have c0 : w1.cell? ⟨w.heap.size, 0, none⟩ = some (.int .u8 19) := by rw [hA1.cell]; rfl
 have c4 : w1.cell? ⟨w.heap.size, 4, none⟩ = some (.slice (some ⟨gk, o, none⟩) 1 c) := by rw [hA1.cell]; rfl
 obtain ⟨q1, q2, q3, q4⟩ := HI.out
 have hr1 : w1.rangeAt gk o x.cells := Old.range (Old.of_below hb1 hBw) hgk q4
 have hA' := hA w1 (q1.old (Old.of_below hb1 hBw)) (q3.below hb1) (by have := hb1.size; omega) (q2.below hb1 (by omega))
 clear hA q1 q2 q3 q4 HI hA1
 go_wp2_with (first
  | (refine wpList_load_mid (P := Tryz.prog) rfl 43 (.tmp 74) rfl gk o (by first | rfl | (simp; done)) x.cells _ hr1 zR rfl (by rw [ET.cells_len]; exact i29) ?_))
 refine hA'.mono ?_
 rintro r w2 ⟨rfl, hT2, hW2⟩
 have HF : Hid (Txt B w2 g m (F ++ ([114, 101, 97, 108, 40] ++ (exT x.ex ++ [41]))) /\ Wr B g w w2) := ⟨hT2, (Wr.of_below hb1).trans hW2⟩
 clear hA' hT2 hW2 hr1
 go_wp2
 go_end0
 exact ⟨rfl, HF.out⟩
mutual
def XE : Ex -> Ex -> Bool
 | .mk op t b nm ks, .mk op' t' b' nm' ks' => decide (op = op') && (decide (t = t' /\ b = b') && (decide (nm = nm') && samL ks ks'))
def samL : List Ex -> List Ex -> Bool
 | [], [] => true
 | x :: r, y :: s => XE x y && samL r s
 | _, _ => false
end
theorem VN : ∀ (xs ys : List Ex), samL xs ys = true ↔ xs.length = ys.length /\ ∀ (i : Nat) (x y : Ex), xs[i]? = some x -> ys[i]? = some y -> XE x y = true
 | [], [] => by simp [samL]
 | [], y :: s => by simp [samL]
 | x :: r, [] => by simp [samL]
 | x :: r, y :: s => by
  rw [samL, yX, VN r s]
  constructor
  ·rintro ⟨h1, h2, h3⟩
   refine ⟨by simp [h2], fun i a b ha hb => ?_⟩
   cases i with
   | zero => simp at ha hb; subst ha hb; exact h1
   | succ i => exact h3 i a b (by simpa using ha) (by simpa using hb)
  ·rintro ⟨h1, h2⟩
   exact ⟨h2 0 x y rfl rfl, by simpa using h1, fun i a b ha hb => h2 (i + 1) a b (by simpa using ha) (by simpa using hb)⟩
def RowE (B : Nat) (w : World) (a : Option Addr) (c : Nat) (ks : List ET) : Prop := ks.length <= 1048576 /\ ks.length <= c /\ (ks = [] \/ ∃ g o, a = some ⟨g, o, none⟩ /\ g < B /\ ET.Row B w g ks o)
theorem RowE.old {B c : Nat} {w w' : World} {a : Option Addr} {ks : List ET} (h : RowE B w a c ks) (hO : Old B w w') : RowE B w' a c ks := by
 obtain ⟨h1, h2, h | ⟨g, o, ha, hg, hr⟩⟩ := h
 ·exact ⟨h1, h2, .inl h⟩
 ·exact ⟨h1, h2, .inr ⟨g, o, ha, hg, ET.Row.old hO hg hr⟩⟩
theorem RowE.at {B c : Nat} {w : World} {a : Option Addr} {ks : List ET} (h : RowE B w a c ks) (i : Nat) (k : ET) (hk : ks[i]? = some k) : ∃ g o, a = some ⟨g, o, none⟩ /\ g < B /\ w.rangeAt g (o + i * 5) k.cells /\ k.In B w := by
 obtain ⟨_, _, h | ⟨g, o, ha, hg, hr⟩⟩ := h
 ·rw [h] at hk; simp at hk
 ·obtain ⟨h1, h2⟩ := hr.at i k hk
  exact ⟨g, o, ha, hg, h1, h2⟩
theorem zha (t b t' b' : Nat) (u : World) : (Op.equalIn 10000 40 (.agg #[.int .u8 (t : Int), .int .u64 (b : Int)]) (.agg #[.int .u8 (t' : Int), .int .u64 (b' : Int)])).run Tryz.prog u = .ok (decide (t = t' /\ b = b')) u := by
 by_cases h1 : t = t'
 ·subst h1
  by_cases h2 : b = b'
  ·subst h2
   go_simp
  ·have e2 : ((b : Int) == (b' : Int)) = false := by rw [zt]; omega
   go_simp
 ·have e1 : ((t : Int) == (t' : Int)) = false := by rw [zt]; omega
  go_simp
theorem ET.sz {op t b c : Nat} {nm : ByteArray} {a : Option Addr} {ks : List ET} {x : ET} (h : x ∈ ks) : SizeOf.sizeOf x < SizeOf.sizeOf (ET.mk op t b nm a c ks) := by
 have := List.sizeOf_lt_of_mem h
 simp only [ET.mk.sizeOf_spec]
 omega
theorem zeD (B g m : Nat) (hm : m <= 9223372036854775807) (h16 : gB <= B) (nm : ByteArray) (a : Option Addr) (c : Nat) (ks : List ET) (t b : Nat) : YF B g m (.mk 1 t b nm a c ks) := by
 intro w F hin hT hBw hTab hlen
 have hBg := hT.base
 have hgw := hT.lt
 have hX : exT (ET.mk 1 t b nm a c ks).ex = XA t b := by
  show exT (.mk 1 t b nm.data.toList _) = _
  unfold exT
  rw [zi rfl]
 rw [hX] at hlen ⊢
 unfold ET.In at hin
 obtain ⟨_, ht, hb, _⟩ := hin
 have hV := fun w hT h => Ve t b ht hb w hT h
 obtain ⟨L, hL⟩ : ∃ L, Hid (L = XA t b) := ⟨_, (rfl : XA t b = _)⟩
 rw [<- hL.out] at hV hlen ⊢
 have HI : Hid (Tab w /\ Txt B w g m F) := ⟨hTab, hT⟩
 obtain ⟨n, hn⟩ : ∃ n, Hid (n = ks.length) := ⟨_, (rfl : ks.length = _)⟩
 show Calls Tryz.prog 106 #[.pointer (some ⟨g, 0, none⟩), .agg (ex5 1 t b nm (.slice a ks.length c)).toArray] w _
 rw [<- hn.out]
 clear hX hT hTab
 go_enter Tryz.func106, Tryz.ntmps106
 go_wp2_with (first
  | (refine yF rfl rfl (ex5 1 t b nm (.slice a n c)) rfl ?_; intro w1 hA1 hb1; refine zb ?_))
 refine zd ?_
 have c0 : w1.cell? ⟨w.heap.size, 0, none⟩ = some (.int .u8 1) := by rw [hA1.cell]; rfl
 have c1 : w1.cell? ⟨w.heap.size, 1, none⟩ = some (.int .u8 (t : Int)) := by rw [hA1.cell]; rfl
 have c2 : w1.cell? ⟨w.heap.size, 2, none⟩ = some (.int .u64 (b : Int)) := by rw [hA1.cell]; rfl
 have hV' := hV w1 (HI.out.1.below hb1 (by omega)) (by have := hb1.size; omega)
 clear hV
 go_wp2_with fail
 refine hV'.mono ?_
 rintro r w2 ⟨rfl, hb2⟩
 have hT2 : Txt B w2 g m F := (HI.out.2.below hb1).below hb2
 have hbb : Below w.heap.size w w2 := hb1.trans (hb2.mono hb1.size)
 clear hV' hb1 hb2 hA1 HI c0 c1 c2
 go_wp2_with (first
  | (refine Yt rfl 1 #[(0, .tmp 35)] rfl [⟨L.toArray⟩] rfl (by decide) (by decide) (by kernel_rfl) ?_; intro w3 hA3 hb3 hs3; clear hs3))
 refine (VS B g m _ [⟨L.toArray⟩] F _ hm (hT2.below hb3) hA3 (by simpa [cat] using hlen) (by simp)).mono ?_
 rintro r w4 ⟨rfl, hT4, hW4⟩
 have HF : Hid (Txt B w4 g m (F ++ L) /\ Wr B g w w4) := ⟨by simpa [cat] using hT4, (Wr.of_below (hbb.trans (hb3.mono hbb.size))).trans hW4⟩
 clear hT4 hW4 hT2 hbb hA3 hb3
 go_wp2
 go_end0
 exact ⟨rfl, HF.out⟩
theorem zdf (B g m : Nat) (hm : m <= 9223372036854775807) (h16 : gB <= B) (nm : ByteArray) (a : Option Addr) (c : Nat) (ks : List ET) (t b : Nat) : YF B g m (.mk 2 t b nm a c ks) := by
 intro w F hin hT hBw hTab hlen
 have hBg := hT.base
 have hgw := hT.lt
 have hX : exT (ET.mk 2 t b nm a c ks).ex = nm.data.toList := by
  show exT (.mk 2 t b nm.data.toList _) = _
  unfold exT
  rw [ze (by decide), zi rfl]
 rw [hX] at hlen ⊢
 have HI : Hid (Txt B w g m F) := hT
 obtain ⟨n, hn⟩ : ∃ n, Hid (n = ks.length) := ⟨_, (rfl : ks.length = _)⟩
 show Calls Tryz.prog 106 #[.pointer (some ⟨g, 0, none⟩), .agg (ex5 2 t b nm (.slice a ks.length c)).toArray] w _
 rw [<- hn.out]
 clear hX hT hTab hin
 go_enter Tryz.func106, Tryz.ntmps106
 go_wp2_with (first
  | (refine yF rfl rfl (ex5 2 t b nm (.slice a n c)) rfl ?_; intro w1 hA1 hb1; refine zb ?_))
 refine zd ?_
 have c0 : w1.cell? ⟨w.heap.size, 0, none⟩ = some (.int .u8 2) := by rw [hA1.cell]; rfl
 have c3 : w1.cell? ⟨w.heap.size, 3, none⟩ = some (.string nm) := by rw [hA1.cell]; rfl
 go_wp2_with (first
  | (refine Yt rfl 1 #[(0, .tmp 42)] rfl [nm] rfl (by decide) (by decide) (by kernel_rfl) ?_; intro w3 hA3 hb3 hs3; clear hs3))
 refine (VS B g m _ [nm] F _ hm ((HI.out.below hb1).below hb3) hA3 (by simpa [cat] using hlen) (by simp)).mono ?_
 rintro r w4 ⟨rfl, hT4, hW4⟩
 have HF : Hid (Txt B w4 g m (F ++ nm.data.toList) /\ Wr B g w w4) := ⟨by simpa [cat] using hT4, (Wr.of_below (hb1.trans (hb3.mono hb1.size))).trans hW4⟩
 clear hT4 hW4 hA3 hb3 hA1 hb1 c0 c3
 go_wp2
 go_end0
 exact ⟨rfl, HF.out⟩
theorem zeC (B g m : Nat) (hm : m <= 9223372036854775807) (h16 : gB <= B) (nm : ByteArray) (a : Option Addr) (c : Nat) (x y : ET) (hE : YF B g m x) (hE2 : YF B g m y) (op t b : Nat) (h3 : 3 <= op) (ho : op < 16) : YF B g m (.mk op t b nm a c [x, y]) := by
 intro w F hin hT hBw hTab hlen
 obtain ⟨gk, o, rfl, hgk, hrx, hry, hx, hy, hc⟩ := ET.kid2 hin
 have hBg := hT.base
 have hgw := hT.lt
 have hX : exT (ET.mk op t b nm (some ⟨gk, o, none⟩) c [x, y]).ex = [40] ++ (exT x.ex ++ [32]) ++ sgT op ++ ([32] ++ (exT y.ex ++ [41])) := by
  show exT (.mk op t b nm.data.toList [x.ex, y.ex]) = _
  rw [exT, ze (by omega), ze (by omega)]
  simp
 rw [hX] at hlen ⊢
 have hS := q9 op
 obtain ⟨S, hSS⟩ : ∃ S, Hid (S = sgT op) := ⟨_, (rfl : sgT op = _)⟩
 obtain ⟨X, hXX⟩ : ∃ X, Hid (X = exT x.ex) := ⟨_, (rfl : exT x.ex = _)⟩
 obtain ⟨Y, hYY⟩ : ∃ Y, Hid (Y = exT y.ex) := ⟨_, (rfl : exT y.ex = _)⟩
 rw [<- hSS.out] at hS hlen ⊢
 rw [<- hXX.out, <- hYY.out] at hlen ⊢
 have hA := fun w hin hT hBw hTab => YN B g m x hm h16 hE ⟨#[40]⟩ ⟨#[32]⟩ w F hin hT hBw hTab (by rw [<- hXX.out]; simp at hlen ⊢; omega)
 have hA2 := fun w hin hT hBw hTab => YN B g m y hm h16 hE2 ⟨#[32]⟩ ⟨#[41]⟩ w (F ++ ([40] ++ (X ++ [32])) ++ S) hin hT hBw hTab (by rw [<- hYY.out]; simp at hlen ⊢; omega)
 rw [<- hXX.out] at hA
 rw [<- hYY.out] at hA2
 have HI : Hid (x.In B w /\ Tab w /\ Txt B w g m F /\ w.rangeAt gk o x.cells) := ⟨hx, hTab, hT, hrx⟩
 have HJ : Hid (y.In B w /\ w.rangeAt gk (o + 5) y.cells) := ⟨hy, hry⟩
 have HL : Hid ((F ++ ([40] ++ (X ++ [32]) ++ S ++ ([32] ++ (Y ++ [41])))).length <= 70368744177664) := hlen
 have e1 : ((op : Int) == 1) = false := by rw [zt]; omega
 have e2 : ((op : Int) == 2) = false := by rw [zt]; omega
 have e16 : ((op : Int) == 16) = false := by rw [zt]; omega
 have e17 : ((op : Int) == 17) = false := by rw [zt]; omega
 have e18 : ((op : Int) == 18) = false := by rw [zt]; omega
 have e19 : ((op : Int) == 19) = false := by rw [zt]; omega
 show Calls Tryz.prog 106 #[.pointer (some ⟨g, 0, none⟩), .agg (ex5 op t b nm (.slice (some ⟨gk, o, none⟩) 2 c)).toArray] w _
 clear hin hX hE hE2 hT hTab hx hy hrx hry hlen
 go_enter Tryz.func106, Tryz.ntmps106
 go_wp2_with (first
  | (refine yF rfl rfl (ex5 op t b nm (.slice (some ⟨gk, o, none⟩) 2 c)) rfl ?_; intro w1 hA1 hb1; refine zb ?_))
 refine zd ?_
 have c0 : w1.cell? ⟨w.heap.size, 0, none⟩ = some (.int .u8 (op : Int)) := by rw [hA1.cell]; rfl
 have c4 : w1.cell? ⟨w.heap.size, 4, none⟩ = some (.slice (some ⟨gk, o, none⟩) 2 c) := by rw [hA1.cell]; rfl
 obtain ⟨q1, q2, q3, q4⟩ := HI.out
 have hr1 : w1.rangeAt gk o x.cells := Old.range (Old.of_below hb1 hBw) hgk q4
 have hA' := hA w1 (q1.old (Old.of_below hb1 hBw)) (q3.below hb1) (by have := hb1.size; omega) (q2.below hb1 (by omega))
 clear hA q1 q3 q4 HI
 go_wp2_with (first
  | (refine wpList_load_mid (P := Tryz.prog) rfl 43 (.tmp 11) rfl gk o (by first | rfl | (simp; done)) x.cells _ hr1 zR rfl (by rw [ET.cells_len]; exact i29) ?_))
 refine hA'.mono ?_
 rintro r w2 ⟨rfl, hT2, hW2⟩
 have hw2 : Wr B g w w2 := (Wr.of_below hb1).trans hW2
 have hA2b := hW2.at hA1 (by omega) (by decide)
 clear hA' hW2 hr1 c0 c4 hA1 hb1
 have c0 : w2.cell? ⟨w.heap.size, 0, none⟩ = some (.int .u8 (op : Int)) := by rw [hA2b.cell]; rfl
 go_wp2_with fail
 refine (hS _).mono ?_
 rintro r w2' ⟨rfl, hw2'⟩
 have hw2'' := hw2'.symm
 subst hw2''
 clear hw2' hS
 go_wp2_with (first
  | (refine Yt rfl 1 #[(0, .tmp 17)] rfl [⟨S.toArray⟩] rfl (by decide) (by decide) (by kernel_rfl) ?_; intro w3 hA3 hb3 hs3; clear hs3))
 refine (VS B g m _ [⟨S.toArray⟩] _ _ hm (hT2.below hb3) hA3 (by have := HL.out; simp [cat] at this ⊢; omega) (by simp)).mono ?_
 rintro r w4 ⟨rfl, hT4, hW4⟩
 have hT4' : Txt B w4 g m (F ++ ([40] ++ (X ++ [32])) ++ S) := by simpa [cat] using hT4
 have hA4 := hW4.at (hA2b.below hb3) (by omega) (by decide)
 have hw4 : Wr B g w w4 := hw2.trans ((Wr.of_below hb3).trans hW4)
 have hold : Old B w w4 := Old.of_wr hw4 hBg hBw
 have hr4 : w4.rangeAt gk (o + 5) y.cells := Old.range hold hgk HJ.out.2
 have hA5 := hA2 w4 (HJ.out.1.old hold) hT4' (by have := hw4.size; omega) (q2.wr hw4 hBg hBw h16)
 clear hA2 hT4 hT4' hW4 hA3 hb3 hA2b hw2 hT2 hold HJ q2 c0
 have c4 : w4.cell? ⟨w.heap.size, 4, none⟩ = some (.slice (some ⟨gk, o, none⟩) 2 c) := by rw [hA4.cell]; rfl
 go_wp2_with (first
  | (refine wpList_load_mid (P := Tryz.prog) rfl 43 (.tmp 23) rfl gk (o + 5) (by first | rfl | (simp; done)) y.cells _ hr4 zR rfl (by rw [ET.cells_len]; exact i29) ?_))
 refine hA5.mono ?_
 rintro r w6 ⟨rfl, hT6, hW6⟩
 have HF : Hid (Txt B w6 g m (F ++ ([40] ++ (X ++ [32]) ++ S ++ ([32] ++ (Y ++ [41])))) /\ Wr B g w w6) := ⟨by simpa using hT6, hw4.trans hW6⟩
 clear hA5 hT6 hW6 hr4 hA4 hw4
 go_wp2
 go_end0
 exact ⟨rfl, HF.out⟩
theorem zeE (B g m : Nat) (hm : m <= 9223372036854775807) (h16 : gB <= B) (h : Nat) : ∀ e : ET, Z6 h e.ex = true -> YF B g m e := by
 induction h with
 | zero => intro e he; simp [Z6] at he
 | succ h ih =>
  rintro ⟨op, t, b, nm, a, c, ks⟩ he
  have hl := zee (show Z6 (h + 1) (.mk op t b nm.data.toList (ET.exs ks)) = true from he)
  rw [ET.exs_eq, Ze] at hl
  by_cases h1 : op = 1
  ·subst h1; exact zeD B g m hm h16 nm a c ks t b
  by_cases h2 : op = 2
  ·subst h2; exact zdf B g m hm h16 nm a c ks t b
  have hk := zcY (show Z6 (h + 1) (.mk op t b nm.data.toList (ET.exs ks)) = true from he) h1 h2
  rw [ET.exs_eq] at hk
  unfold Vi at hl
  rw [ze (by omega)] at hl
  by_cases h3 : 16 <= op /\ op < 20
  ·rw [zi h3] at hl
   match ks, hl, hk with
   | [x], _, hk =>
    have hx := ih x (hk x.ex (by simp))
    have : op = 16 \/ op = 17 \/ op = 18 \/ op = 19 := by omega
    rcases this with rfl | rfl | rfl | rfl
    ·exact zde B g m hm h16 nm a c x hx t b
    ·exact zdd B g m hm h16 nm a c x hx t b
    ·exact zdc B g m hm h16 nm a c x hx t b
    ·exact zdb B g m hm h16 nm a c x hx t b
  ·rw [ze h3] at hl
   by_cases h4 : 3 <= op /\ op < 16
   ·rw [zi h4] at hl
    match ks, hl, hk with
    | [x, y], _, hk => exact zeC B g m hm h16 nm a c x y (ih x (hk x.ex (by simp))) (ih y (hk y.ex (by simp))) op t b h4.1 h4.2
   ·rw [ze h4] at hl
    omega
theorem z54 : (Tryz.prog.info? 88).map (fun i => (i.zero, i.size)) = some (some (.agg [.pointer none, .slice none 0 0, .int .i64 0].toArray), 3) := by kernel_rfl
theorem i54 : (Tryz.prog.info? 88).map (·.size) = some 3 := by kernel_rfl
theorem zg6 (m : Int) : ∀ v ∈ [Value.pointer none, .slice none 0 0, .int .i64 m], v.oneCell' = true := by
 intro v hv
 simp at hv
 rcases hv with rfl | rfl | rfl <;> rfl
theorem Txt.new {w : World} {g m B : Nat} (hB : B <= g) (h : At 88 w g [.pointer none, .slice none 0 0, .int .i64 (m : Int)]) : Txt B w g m [] :=
 ⟨[], .inl rfl, zj _, Raw.new hB h⟩
theorem zdg (e : ET) (B : Nat) (w : World) (h : e.In B w) (hBw : B <= w.heap.size) (hT : Tab w) (h16 : gB <= w.heap.size) (hlen : (exT e.ex).length <= 70368744177664) :
  Calls Tryz.prog 70 #[.agg e.cells.toArray] w fun r w' => r = .returned (.tuple #[.string ⟨(if Z6 32 e.ex then exT e.ex else []).toArray⟩, .int .i64 (if Z6 32 e.ex then 0 else 2)]) /\ Below w.heap.size w w' := by
 have hM := fun w h hB hT h16 => zay 32 e w B (by decide) h hB hT h16
 have hW : ∀ C g, gB <= C -> Z6 32 e.ex = true -> YF C g 9223372036854775807 e := fun C g hC hm => zeE C g 9223372036854775807 (by decide) hC 32 e hm
 obtain ⟨M, hMM⟩ : ∃ M, Hid (M = Z6 32 e.ex) := ⟨_, (rfl : _ = Z6 32 e.ex)⟩
 rw [<- hMM.out] at hM hW ⊢
 have HI : Hid (e.In B w /\ Tab w) := ⟨h, hT⟩
 obtain ⟨X, hX⟩ : ∃ X, Hid (X = exT e.ex) := ⟨_, (rfl : exT e.ex = _)⟩
 rw [<- hX.out] at hlen ⊢
 have HW : Hid (∀ C g, gB <= C -> M = true -> YF C g 9223372036854775807 e) := hW
 clear h hT hW
 go_enter Tryz.func70, Tryz.ntmps70
 go_wp2_with (first
  | (refine yF rfl rfl e.cells rfl ?_; intro w1 hA1 hb1)
  | (refine lL rfl rfl hA1 rfl zR rfl (by rw [ET.cells_len]; exact i29) ?_))
 refine (hM w1 (HI.out.1.old (Old.of_below hb1 hBw)) (by have := hb1.size; omega) (HI.out.2.below hb1 h16) (by have := hb1.size; omega)).mono ?_
 rintro r w2 ⟨rfl, hb2⟩
 have hA2 := hA1.below hb2
 have hw2 := hb1.trans (hb2.mono hb1.size)
 clear hM hA1 hb2 hb1
 cases M with
 | false =>
  go_wp2_with fail
  go_ret2
  exact ⟨rfl, hw2⟩
 | true =>
  go_wp2_with (first
   | (refine zF rfl rfl [.pointer none, .slice none 0 0, .int .i64 9223372036854775807] ?_)
   | (refine zD rfl rfl z54 ?_; intro w3 hA3 hb3 hs3)
   | (refine zl rfl rfl hA3 [.pointer none, .slice none 0 0, .int .i64 9223372036854775807] rfl rfl i54 rfl (zg6 _) ?_; intro w4 hA4 hb4 hs4; refine zb ?_))
  refine zd ?_
  have hB4 : Below w2.heap.size w2 w4 := hb4.below hb3 (zj _) (by omega)
  have hw4 := hw2.trans (hB4.mono hw2.size)
  have hA24 := hA2.below hB4
  have hBw2 : w.heap.size <= w2.heap.size := hw2.size
  have hE := HW.out w2.heap.size w2.heap.size (by omega) trivial w4 [] ((HI.out.1.old (Old.of_below hw4 hBw)).up (by omega)) (Txt.new (zj _) hA4) (by have := hB4.size; omega) (HI.out.2.below hw4 h16) (by rw [<- hX.out]; simpa using hlen)
  rw [<- hX.out, List.nil_append] at hE
  clear HW hA3 hb3 hb4 hs3 hs4 hA2 hA4
  go_wp2_with (first
   | (refine lL rfl rfl hA24 rfl zR rfl (by rw [ET.cells_len]; exact i29) ?_))
  refine hE.mono ?_
  rintro r w5 ⟨rfl, hT5, hW5⟩
  obtain ⟨bs, hbs, hbl, hraw⟩ := hT5
  have hbX : bs = X := by
   rcases hbs with h | ⟨h, _⟩
   ·exact h
   ·omega
  subst hbX
  have hs5 : w2.heap.size <= w5.heap.size := by have := hB4.size; have := hW5.size; omega
  have hS := zbc w2.heap.size w2.heap.size _ bs w5 hraw hs5
  have hw5 : Below w.heap.size w w5 := hw4.trans ((hW5.below (zj _) (by have := hB4.size; omega)).mono hBw2)
  clear hE hW5 hraw hbs hA24 hw4 hB4
  go_wp2_with fail
  refine hS.mono ?_
  rintro r w6 ⟨rfl, hb6⟩
  go_wp2_with fail
  go_ret2
  exact ⟨rfl, hw5.trans (hb6.mono hBw2)⟩
def zcz (B : Nat) (x : ET) : Prop := ∀ (y : ET) (w : World), x.In B w -> y.In B w -> B <= w.heap.size -> Calls Tryz.prog 15 #[.agg x.cells.toArray, .agg y.cells.toArray] w fun r w' => r = .returned (.bool (XE x.ex y.ex)) /\ Below w.heap.size w w'
theorem Old.from {B : Nat} {a b c : World} (h : Old B a b) (k : Old B a c) : Old B b c := fun i hi => (k i hi).trans (h i hi).symm
theorem Xm {w : World} {g : Nat} {op t b : Nat} {nm : ByteArray} {s : Value} (h : At 43 w g (ex5 op t b nm s)) : w.cell? ⟨g, 0, none⟩ = some (.int .u8 (op : Int)) /\ w.cell? ⟨g, 1, none⟩ = some (.int .u8 (t : Int)) /\ w.cell? ⟨g, 2, none⟩ = some (.int .u64 (b : Int)) /\ w.cell? ⟨g, 3, none⟩ = some (.string nm) /\ w.cell? ⟨g, 4, none⟩ = some s := by
  refine ⟨?_, ?_, ?_, ?_, ?_⟩ <;> (rw [h.cell]; rfl)
theorem qw {w : World} {g o : Nat} {op t b : Nat} {nm : ByteArray} {s : Value} (h : w.rangeAt g o (ex5 op t b nm s)) : w.cell? ⟨g, o, none⟩ = some (.int .u8 (op : Int)) /\ w.cell? ⟨g, o + 1, none⟩ = some (.int .u8 (t : Int)) /\ w.cell? ⟨g, o + 2, none⟩ = some (.int .u64 (b : Int)) /\ w.cell? ⟨g, o + 3, none⟩ = some (.string nm) /\ w.cell? ⟨g, o + 4, none⟩ = some s :=
  ⟨h 0 _ rfl, h 1 _ rfl, h 2 _ rfl, h 3 _ rfl, h 4 _ rfl⟩
theorem zbz (B : Nat) (op t b : Nat) (nm : ByteArray) (a : Option Addr) (c : Nat) (ks : List ET) (hS : ∀ k ∈ ks, zcz B k) : zcz B (.mk op t b nm a c ks) := by
  rintro ⟨op', t', b', nm', a', c', ks'⟩ w hx hy hBw
  unfold ET.In at hx hy
  obtain ⟨_, _, _, x1, x2, x3⟩ := hx
  obtain ⟨_, _, _, y1, y2, y3⟩ := hy
  have HR : Hid (RowE B w a c ks /\ RowE B w a' c' ks') := ⟨⟨x1, x2, x3⟩, ⟨y1, y2, y3⟩⟩
  obtain ⟨R, hR⟩ : ∃ R, Hid (R = XE (ET.mk op t b nm a c ks).ex (ET.mk op' t' b' nm' a' c' ks').ex) := ⟨_, (rfl : _ = XE _ _)⟩
  rw [<- hR.out]
  have hR2 : Hid (R = (decide (op = op') && (decide (t = t' /\ b = b') && (decide (nm.data.toList = nm'.data.toList) && samL (ks.map ET.ex) (ks'.map ET.ex))))) := by
    have := hR.out
    show R = _
    rw [this]
    show XE (.mk op t b nm.data.toList (ET.exs ks)) (.mk op' t' b' nm'.data.toList (ET.exs ks')) = _
    rw [XE, ET.exs_eq, ET.exs_eq]
  obtain ⟨n, hn⟩ : ∃ n, Hid (n = ks.length) := ⟨_, (rfl : ks.length = _)⟩
  obtain ⟨n', hn'⟩ : ∃ n, Hid (n = ks'.length) := ⟨_, (rfl : ks'.length = _)⟩
  show Calls Tryz.prog 15 #[.agg (ex5 op t b nm (.slice a ks.length c)).toArray, .agg (ex5 op' t' b' nm' (.slice a' ks'.length c')).toArray] w _
  rw [<- hn.out] at x1 x2 ⊢
  rw [<- hn'.out] at y1 y2 ⊢
  have hq := zha t b t' b'
  have HS : Hid (∀ k ∈ ks, zcz B k) := hS
  clear x3 y3 hR hS
  go_enter Tryz.func15, Tryz.ntmps15
  go_wp2_with (first
    | (refine yF rfl rfl (ex5 op t b nm (.slice a n c)) rfl ?_; intro w1 hA1 hb1)
    | (refine yF rfl rfl (ex5 op' t' b' nm' (.slice a' n' c')) rfl ?_; intro w2 hA2 hb2; refine zb ?_))
  refine zd ?_
  have hA12 := hA1.below hb2
  have hbw : Below w.heap.size w w2 := hb1.trans (hb2.mono hb1.size)
  obtain ⟨q0, q1, q2, q3, q4⟩ := Xm hA12
  obtain ⟨u0, u1, u2, u3, u4⟩ := Xm hA2
  have hl12 : w1.heap.size < w2.heap.size := hA2.lt
  have HB : Hid (At 43 w2 w.heap.size (ex5 op t b nm (.slice a n c)) /\ At 43 w2 w1.heap.size (ex5 op' t' b' nm' (.slice a' n' c'))) := ⟨hA12, hA2⟩
  clear hA12 hA1 hA2 hb1 hb2
  by_cases ho : op = op'
  · subst ho
    have hd : decide (op = op) = true := by simp
    rw [hd, Bool.true_and] at hR2
    cases hV : decide (t = t' /\ b = b') with
    | true =>
      rw [hV, Bool.true_and] at hR2
      have hq' : ∀ u, (Op.equalIn 10000 40 (.agg #[.int .u8 (t : Int), .int .u64 (b : Int)]) (.agg #[.int .u8 (t' : Int), .int .u64 (b' : Int)])).run Tryz.prog u = .ok true u := fun u => by rw [hq, hV]
      clear hq hd hV
      by_cases hs : nm.toList = nm'.toList
      · have hs0 : (nm.toList == nm'.toList) = true := by rw [beq_iff_eq]; exact hs
        rw [zf, zf] at hs
        have hs' : decide (nm.data.toList = nm'.data.toList) = true := yy hs
        rw [hs', Bool.true_and] at hR2
        clear hs hs'
        by_cases hnn : n = n'
        · subst hnn
          go_wp2_with fail
          clear q0 q1 q2 q3 q4 u0 u1 u2 u3 u4 hs0 hq'
          go_loopw [5] (fun j wr => ∃ i : Nat, j = .int .i64 (i : Int) /\ i <= n /\ Hid (Below w2.heap.size w2 wr /\ ∀ (q : Nat) (x y : Ex), q < i -> (ks.map ET.ex)[q]? = some x -> (ks'.map ET.ex)[q]? = some y -> XE x y = true)) (fun j _ => n - (intOf j).toNat)
          case atStart => exact ⟨0, rfl, by omega, Below.refl _ _, fun q x y hq => by omega⟩
          case round =>
            obtain ⟨i, rfl, hi, hX⟩ := hrel
            obtain ⟨hb2r, hall⟩ := hX.out
            obtain ⟨-, -, -, -, q4⟩ := Xm (HB.out.1.below hb2r)
            obtain ⟨-, -, -, -, u4⟩ := Xm (HB.out.2.below hb2r)
            have hwr : Below w.heap.size w wr := hbw.trans (hb2r.mono hbw.size)
            by_cases hc : i < n
            · obtain ⟨x, hx⟩ : ∃ k, ks[i]? = some k := ⟨ks[i]'(by rw [<- hn.out]; exact hc), by rw [yD]⟩
              obtain ⟨y, hy⟩ : ∃ k, ks'[i]? = some k := ⟨ks'[i]'(by rw [<- hn'.out]; exact hc), by rw [yD]⟩
              have hold : Old B w wr := Old.of_below hwr hBw
              obtain ⟨g1, o1, rfl, hg1, hr1, hx1⟩ := (HR.out.1.old hold).at i x hx
              obtain ⟨g2, o2, rfl, hg2, hr2, hy1⟩ := (HR.out.2.old hold).at i y hy
              have HI : Hid (∀ wz, Below w.heap.size w wz -> Calls Tryz.prog 15 #[.agg x.cells.toArray, .agg y.cells.toArray] wz fun r w' => r = .returned (.bool (XE x.ex y.ex)) /\ Below wz.heap.size wz w') := fun wz hz => HS.out x (List.mem_of_getElem? hx) y wz (hx1.old (Old.from hold (Old.of_below hz hBw))) (hy1.old (Old.from hold (Old.of_below hz hBw))) (by have := hz.size; omega)
              have HX : Hid ((ks.map ET.ex)[i]? = some x.ex /\ (ks'.map ET.ex)[i]? = some y.ex) := ⟨by rw [List.getElem?_map, hx]; rfl, by rw [List.getElem?_map, hy]; rfl⟩
              have HA : Hid (∀ (q : Nat) (x y : Ex), q < i -> (ks.map ET.ex)[q]? = some x -> (ks'.map ET.ex)[q]? = some y -> XE x y = true) := hall
              obtain ⟨Z, hZ⟩ : ∃ Z, Hid (Z = XE x.ex y.ex) := ⟨_, (rfl : _ = XE _ _)⟩
              rw [<- hZ.out] at HI
              obtain ⟨xop, xt, xb, xnm, xa, xc, xk⟩ := x
              obtain ⟨yop, yt, yb, ynm, ya, yc, yk⟩ := y
              obtain ⟨x0, x1', x2', x3', x4'⟩ := qw (s := .slice xa xk.length xc) hr1
              obtain ⟨y0, y1', y2', y3', y4'⟩ := qw (s := .slice ya yk.length yc) hr2
              clear hX hall hx hy hx1 hy1 hold hr1 hr2
              go_wp2_with fail
              go_region_with (first
                | (go_at_call 15; refine (HI.out _ (by first | exact hwr | exact Zb hwr _ | exact Below.drew hwr)).mono ?_; rintro r w3 ⟨rfl, hb3⟩))
              all_goals
                (have hw3 : Below w2.heap.size w2 w3 := by
                  first
                    | exact hb2r.trans (hb3.mono hb2r.size)
                    | exact (Zb hb2r _).trans (hb3.mono hb2r.size)
                    | exact (Below.drew hb2r).trans (hb3.mono hb2r.size)
                 clear hb3 q4 u4 x0 x1' x2' x3' x4' y0 y1' y2' y3' y4' HI
                 cases Z with
                 | false =>
                   have hRf : R = false := by
                     rw [hR2.out, Bool.eq_false_iff]
                     intro h
                     have := ((VN _ _).1 h).2 i _ _ HX.out.1 HX.out.2
                     rw [<- hZ.out] at this
                     cases this
                   clear hZ HX HA HR HB HS
                   go_wp2
                   go_ret
                   exact ⟨by rw [hRf]; rfl, hbw.trans (hw3.mono hbw.size)⟩
                 | true =>
                   go_wp2
                   go_roundw
                   case rel =>
                     refine ⟨i + 1, by go_num, by omega, hw3, fun q u v hq hu hv => ?_⟩
                     by_cases hqi : q = i
                     · subst hqi
                       rw [HX.out.1] at hu
                       rw [HX.out.2] at hv
                       cases hu
                       cases hv
                       exact hZ.out.symm
                     · exact HA.out q u v (by omega) hu hv
                   case measure => simp [intOf]; omega)
            · have hin : i = n := by omega
              have hRt : R = true := by
                rw [hR2.out, VN, Ze, Ze, <- hn.out, <- hn'.out]
                refine ⟨rfl, fun q u v hu hv => hall q u v ?_ hu hv⟩
                have := (List.getElem?_eq_some_iff.1 hu).1
                rw [Ze, <- hn.out] at this
                omega
              clear hX hall hin HR HS HB
              go_wp2
              go_ret
              exact ⟨by rw [hRt]; rfl, hwr⟩
        · have hne : ((n : Int) == (n' : Int)) = false := by rw [zt]; omega
          have hRf : R = false := by
            rw [hR2.out, Bool.eq_false_iff]
            intro h
            have := (VN _ _).1 h
            rw [Ze, Ze, <- hn.out, <- hn'.out] at this
            exact hnn this.1
          clear hnn HR HS HB
          go_wp2_with fail
          go_ret
          exact ⟨by rw [hRf]; rfl, hbw⟩
      · have hs0 : (nm.toList == nm'.toList) = false := by rw [zt]; exact hs
        rw [zf, zf] at hs
        have hs' : decide (nm.data.toList = nm'.data.toList) = false := zN hs
        rw [hs', Bool.false_and] at hR2
        clear hs hs' HR HS HB
        go_wp2_with fail
        go_ret
        exact ⟨by rw [hR2.out]; rfl, hbw⟩
    | false =>
      rw [hV, Bool.false_and] at hR2
      have hq' : ∀ u, (Op.equalIn 10000 40 (.agg #[.int .u8 (t : Int), .int .u64 (b : Int)]) (.agg #[.int .u8 (t' : Int), .int .u64 (b' : Int)])).run Tryz.prog u = .ok false u := fun u => by rw [hq, hV]
      clear hq hd hV HR HS HB
      go_wp2_with fail
      go_ret
      exact ⟨by rw [hR2.out]; rfl, hbw⟩
  · have e0 : ((op : Int) == (op' : Int)) = false := by rw [zt]; omega
    have hd : decide (op = op') = false := by simpa using ho
    rw [hd, Bool.false_and] at hR2
    have e1 : ¬ (op : Int) = (op' : Int) := by omega
    clear ho hd hq HR HS HB
    go_wp2_with fail
    all_goals first | (exfalso; apply e1; assumption) | (go_ret; exact ⟨by rw [hR2.out]; rfl, hbw⟩)
theorem zaH (B : Nat) (M : Nat) : ∀ x : ET, SizeOf.sizeOf x < M -> zcz B x := by
  induction M with
  | zero => intro x h; omega
  | succ M ih =>
    rintro ⟨op, t, b, nm, a, c, ks⟩ hN
    exact zbz B op t b nm a c ks fun k hk => ih k (by have := ET.sz (op := op) (t := t) (b := b) (c := c) (nm := nm) (a := a) hk; omega)
mutual
def htX : Ex -> Nat
 | .mk _ _ _ _ ks => htL ks + 1
def htL : List Ex -> Nat
 | [] => 0
 | e :: r => max (htX e) (htL r)
end
theorem qp : ∀ {l : List Ex} {e : Ex}, e ∈ l -> htX e <= htL l
 | x :: r, e, h => by
  rw [htL]
  rcases List.mem_cons.1 h with rfl | h
  ·omega
  ·have := qp h; omega
theorem Ky : ∀ (l : List Ex) (e : Ex), htL (l ++ [e]) = max (htL l) (htX e)
 | [], e => by simp [htL]
 | x :: r, e => by rw [List.cons_append, htL, htL, Ky r e]; omega
theorem XV : ∀ (l : List Ex) (i : Nat), htL (l.take i) <= htL l
 | [], i => by simp
 | x :: r, 0 => by simp [htL]
 | x :: r, i + 1 => by rw [Y8, htL, htL]; have := XV r i; omega
def HtW (F B : Nat) (x : ET) : Prop := ∀ (w : World), x.In B w -> B <= w.heap.size -> Calls Tryz.prog F #[.agg x.cells.toArray] w fun r w' => r = .returned (.int .i64 (htX x.ex : Int)) /\ Below w.heap.size w w'
theorem zaK (B : Nat) (op t b : Nat) (nm : ByteArray) (a : Option Addr) (c : Nat) (ks : List ET) (hS : ∀ k ∈ ks, HtW 170 B k) (hW : htL (ks.map ET.ex) <= 1048576) : HtW 170 B (.mk op t b nm a c ks) := by
 intro w hx hBw
 unfold ET.In at hx
 obtain ⟨_, _, _, x1, x2, x3⟩ := hx
 have HR : Hid (RowE B w a c ks) := ⟨x1, x2, x3⟩
 obtain ⟨n, hn⟩ : ∃ n, Hid (n = ks.length) := ⟨_, (rfl : ks.length = _)⟩
 obtain ⟨T, hT⟩ : ∃ T : Nat, Hid (T = htL (ks.map ET.ex)) := ⟨_, (rfl : _ = htL (ks.map ET.ex))⟩
 have hTx : htX (ET.mk op t b nm a c ks).ex = T + 1 := by
  show htX (.mk op t b nm.data.toList (ET.exs ks)) = _
  rw [htX, ET.exs_eq, hT.out]
 rw [hTx]
 have hTl : T <= 1048576 := by rw [hT.out]; exact hW
 show Calls Tryz.prog 170 #[.agg (ex5 op t b nm (.slice a ks.length c)).toArray] w _
 rw [<- hn.out] at x1 x2 ⊢
 have HS : Hid (∀ k ∈ ks, HtW 170 B k) := hS
 clear x3 hS hTx hW
 go_enter Tryz.func170, Tryz.ntmps170
 go_wp2_with (first
  | (refine yF rfl rfl (ex5 op t b nm (.slice a n c)) rfl ?_; intro w1 hA1 hb1; refine zb ?_))
 refine zd ?_
 have HB : Hid (At 43 w1 w.heap.size (ex5 op t b nm (.slice a n c))) := hA1
 clear hA1
 go_wp2_with fail
 go_loopw [3, 4] (fun u j wr => ∃ i : Nat, j = .int .i64 (i : Int) /\ i <= n /\ Hid ((∃ z : Nat, u = .int .i64 (z : Int) /\ z = htL ((ks.map ET.ex).take i)) /\ Below w1.heap.size w1 wr)) (fun u j _ => n - (intOf j).toNat)
 case atStart => exact ⟨0, rfl, by omega, ⟨0, rfl, by simp [htL]⟩, Below.refl _ _⟩
 case round =>
  obtain ⟨i, rfl, hi, hX⟩ := hrel
  obtain ⟨⟨z, rfl, hz⟩, hbr⟩ := hX.out
  have hwr : Below w.heap.size w wr := hb1.trans (hbr.mono hb1.size)
  have hzl : z <= 1048576 := by rw [hz]; exact zQ (XV _ _) (by rw [<- hT.out]; exact hTl)
  obtain ⟨-, -, -, -, q4⟩ := Xm (HB.out.below hbr)
  by_cases hc : i < n
  ·obtain ⟨x, hx⟩ : ∃ k, ks[i]? = some k := ⟨ks[i]'(by rw [<- hn.out]; exact hc), by rw [yD]⟩
   have hold : Old B w wr := Old.of_below hwr hBw
   obtain ⟨g1, o1, rfl, hg1, hr1, hx1⟩ := (HR.out.old hold).at i x hx
   have hI := HS.out x (List.mem_of_getElem? hx) wr hx1 (by have := hwr.size; omega)
   obtain ⟨Y, hY⟩ : ∃ Y : Nat, Hid (Y = htX x.ex) := ⟨_, (rfl : _ = htX x.ex)⟩
   have HT1 : Hid (max z Y = htL ((ks.map ET.ex).take (i + 1))) := by
    show _ = _
    rw [List.take_add_one, List.getElem?_map, hx, hz, hY.out]
    exact (Ky _ _).symm
   rw [<- hY.out] at hI
   obtain ⟨xop, xt, xb, xnm, xa, xc, xk⟩ := x
   have hI : Calls Tryz.prog 170 #[.agg #[.int .u8 (xop : Int), .int .u8 (xt : Int), .int .u64 (xb : Int), .string xnm, .slice xa xk.length xc]] wr fun r w' => r = .returned (.int .i64 (Y : Int)) /\ Below wr.heap.size wr w' := hI
   obtain ⟨x0, x1', x2', x3', x4'⟩ := qw (s := .slice xa xk.length xc) hr1
   clear hX hx hx1 hold hr1 hY
   go_wp2_with fail
   refine hI.mono ?_
   rintro r w3 ⟨rfl, hb3⟩
   have hw3 : Below w1.heap.size w1 w3 := hbr.trans (hb3.mono hbr.size)
   clear hI q4 x0 x1' x2' x3' x4'
   go_wp2
   go_roundw
   case rel => exact ⟨i + 1, by go_num, by omega, ⟨max z Y, by first | rfl | (congr 1; omega) | simp, HT1.out⟩, hw3⟩
   case measure => simp [intOf]; omega
  ·have hin : i = n := by omega
   have hzT : z = T := by rw [hz, hin, hn.out, hT.out, List.take_of_length_le (by simp)]
   clear hX hz
   go_wp2
   go_ret
   exact ⟨by rw [hzT]; rfl, hwr⟩
theorem qr (B : Nat) (M : Nat) : ∀ x : ET, SizeOf.sizeOf x < M -> htX x.ex <= 1048576 -> HtW 170 B x := by
 induction M with
 | zero => intro x h; omega
 | succ M ih =>
  rintro ⟨op, t, b, nm, a, c, ks⟩ hN hW
  have e : (ET.mk op t b nm a c ks).ex = .mk op t b nm.data.toList (ET.exs ks) := rfl
  rw [e, ET.exs_eq, htX] at hW
  refine zaK B op t b nm a c ks (fun k hk => ih k (by have := ET.sz (op := op) (t := t) (b := b) (c := c) (nm := nm) (a := a) hk; omega) ?_) (by omega)
  have := qp (List.mem_map_of_mem (f := ET.ex) hk)
  omega
theorem zaL (B : Nat) (op t b : Nat) (nm : ByteArray) (a : Option Addr) (c : Nat) (ks : List ET) (hS : ∀ k ∈ ks, HtW 142 B k) (hW : htL (ks.map ET.ex) <= 1048576) : HtW 142 B (.mk op t b nm a c ks) := by
 intro w hx hBw
 unfold ET.In at hx
 obtain ⟨_, _, _, x1, x2, x3⟩ := hx
 have HR : Hid (RowE B w a c ks) := ⟨x1, x2, x3⟩
 obtain ⟨n, hn⟩ : ∃ n, Hid (n = ks.length) := ⟨_, (rfl : ks.length = _)⟩
 obtain ⟨T, hT⟩ : ∃ T : Nat, Hid (T = htL (ks.map ET.ex)) := ⟨_, (rfl : _ = htL (ks.map ET.ex))⟩
 have hTx : htX (ET.mk op t b nm a c ks).ex = T + 1 := by
  show htX (.mk op t b nm.data.toList (ET.exs ks)) = _
  rw [htX, ET.exs_eq, hT.out]
 rw [hTx]
 have hTl : T <= 1048576 := by rw [hT.out]; exact hW
 show Calls Tryz.prog 142 #[.agg (ex5 op t b nm (.slice a ks.length c)).toArray] w _
 rw [<- hn.out] at x1 x2 ⊢
 have HS : Hid (∀ k ∈ ks, HtW 142 B k) := hS
 clear x3 hS hTx hW
 go_enter Tryz.func142, Tryz.ntmps142
 go_wp2_with (first
  | (refine yF rfl rfl (ex5 op t b nm (.slice a n c)) rfl ?_; intro w1 hA1 hb1; refine zb ?_))
 refine zd ?_
 obtain ⟨-, -, -, -, q4⟩ := Xm hA1
 clear hA1
 go_wp2_with fail
 clear q4
 go_loopw [3, 9] (fun u j wr => ∃ i : Nat, j = .int .i64 (i : Int) /\ i <= n /\ Hid ((∃ z : Nat, u = .int .i64 (z : Int) /\ z = htL ((ks.map ET.ex).take i)) /\ Below w1.heap.size w1 wr)) (fun u j _ => n - (intOf j).toNat)
 case atStart => exact ⟨0, rfl, by omega, ⟨0, rfl, by simp [htL]⟩, Below.refl _ _⟩
 case round =>
  obtain ⟨i, rfl, hi, hX⟩ := hrel
  obtain ⟨⟨z, rfl, hz⟩, hbr⟩ := hX.out
  have hwr : Below w.heap.size w wr := hb1.trans (hbr.mono hb1.size)
  have hzl : z <= 1048576 := by rw [hz]; exact zQ (XV _ _) (by rw [<- hT.out]; exact hTl)
  by_cases hc : i < n
  ·obtain ⟨x, hx⟩ : ∃ k, ks[i]? = some k := ⟨ks[i]'(by rw [<- hn.out]; exact hc), by rw [yD]⟩
   have hold : Old B w wr := Old.of_below hwr hBw
   obtain ⟨g1, o1, rfl, hg1, hr1, hx1⟩ := (HR.out.old hold).at i x hx
   have hI := HS.out x (List.mem_of_getElem? hx) wr hx1 (by have := hwr.size; omega)
   obtain ⟨Y, hY⟩ : ∃ Y : Nat, Hid (Y = htX x.ex) := ⟨_, (rfl : _ = htX x.ex)⟩
   have HT1 : Hid (max z Y = htL ((ks.map ET.ex).take (i + 1))) := by
    show _ = _
    rw [List.take_add_one, List.getElem?_map, hx, hz, hY.out]
    exact (Ky _ _).symm
   have HI : Hid (∀ wz, Below wr.heap.size wr wz -> Calls Tryz.prog 142 #[.agg x.cells.toArray] wz fun r w' => r = .returned (.int .i64 (Y : Int)) /\ Below wz.heap.size wz w') := fun wz hz => by
    rw [hY.out]
    exact HS.out x (List.mem_of_getElem? hx) wz (hx1.old (Old.of_below hz (by have := hwr.size; omega))) (by have := hwr.size; have := hz.size; omega)
   clear hX hx hx1 hold hY hI
   go_wp2_with (first
    | (refine wpList_load_mid (P := Tryz.prog) rfl 43 (.tmp 11) rfl g1 (o1 + i * 5) (by first | rfl | (simp; done)) x.cells _ hr1 zR rfl (by rw [ET.cells_len]; exact i29) ?_)
    | (refine zD rfl rfl z29 ?_; intro w2 hA2 hb2 hs2)
    | (refine zl rfl rfl hA2 x.cells rfl rfl (by rw [ET.cells_len]; exact i29) (by rw [ET.cells_len]; rfl) x.one ?_; intro w4 hA4 hb4 hs4; refine zb ?_))
   refine zd ?_
   have hB4 : Below wr.heap.size wr w4 := hb4.below hb2 (zj _) (by omega)
   have hI := HI.out w4 hB4
   clear hb4 hb2 hA2 hr1 hs2 hs4 HI
   go_wp2_with (first
    | (refine lL rfl rfl hA4 rfl zR rfl (by rw [ET.cells_len]; exact i29) ?_))
   refine hI.mono ?_
   rintro r w3 ⟨rfl, hb3⟩
   have hw3 : Below w1.heap.size w1 w3 := hbr.trans ((hB4.trans (hb3.mono hB4.size)).mono hbr.size)
   clear hI hA4 hB4
   go_wp2
   go_roundw
   case rel => exact ⟨i + 1, by go_num, by omega, ⟨max z Y, by first | rfl | (congr 1; omega) | simp, HT1.out⟩, hw3⟩
   case measure => simp [intOf]; omega
  ·have hin : i = n := by omega
   have hzT : z = T := by rw [hz, hin, hn.out, hT.out, List.take_of_length_le (by simp)]
   clear hX hz
   go_wp2
   go_ret
   exact ⟨by rw [hzT]; rfl, hwr⟩
theorem qs (B : Nat) (M : Nat) : ∀ x : ET, SizeOf.sizeOf x < M -> htX x.ex <= 1048576 -> HtW 142 B x := by
 induction M with
 | zero => intro x h; omega
 | succ M ih =>
  rintro ⟨op, t, b, nm, a, c, ks⟩ hN hW
  have e : (ET.mk op t b nm a c ks).ex = .mk op t b nm.data.toList (ET.exs ks) := rfl
  rw [e, ET.exs_eq, htX] at hW
  refine zaL B op t b nm a c ks (fun k hk => ih k (by have := ET.sz (op := op) (t := t) (b := b) (c := c) (nm := nm) (a := a) hk; omega) ?_) (by omega)
  have := qp (List.mem_map_of_mem (f := ET.ex) hk)
  omega
mutual
def ET.Lies (S : Nat -> Prop) : ET -> Prop
 | .mk _ _ _ _ a _ ks => (ks = [] \/ ∃ g o, a = some ⟨g, o, none⟩ /\ S g) /\ ET.LiesL S ks
def ET.LiesL (S : Nat -> Prop) : List ET -> Prop
 | [] => True
 | e :: r => e.Lies S /\ ET.LiesL S r
end
mutual
theorem ET.Lies.mono {S S' : Nat -> Prop} (hS : ∀ k, S k -> S' k) : ∀ {e : ET}, e.Lies S -> e.Lies S'
 | .mk _ _ _ _ a _ ks, h => by
  unfold ET.Lies at h ⊢
  refine ⟨?_, ET.LiesL.mono hS h.2⟩
  rcases h.1 with h | ⟨g, o, ha, hg⟩
  ·exact .inl h
  ·exact .inr ⟨g, o, ha, hS g hg⟩
theorem ET.LiesL.mono {S S' : Nat -> Prop} (hS : ∀ k, S k -> S' k) : ∀ {l : List ET}, ET.LiesL S l -> ET.LiesL S' l
 | [], _ => trivial
 | e :: r, h => by
  unfold ET.LiesL at h ⊢
  exact ⟨ET.Lies.mono hS h.1, ET.LiesL.mono hS h.2⟩
end
mutual
theorem ET.In.stay {B : Nat} {S : Nat -> Prop} {w w' : World} (hM : ∀ k, S k -> k < B -> w'.heap[k]? = w.heap[k]?) : ∀ {e : ET}, e.In B w -> e.Lies S -> e.In B w'
 | .mk op t b nm a c ks, h, u => by
  unfold ET.In at h ⊢
  unfold ET.Lies at u
  obtain ⟨h1, h2, h3, h4, h5, h6⟩ := h
  refine ⟨h1, h2, h3, h4, h5, ?_⟩
  rcases h6 with h6 | ⟨g, o, ha, hg, hr⟩
  ·exact .inl h6
  ·rcases u.1 with hk | ⟨g', o', ha', hg'⟩
   ·exact .inl hk
   ·rw [ha] at ha'
    cases ha'
    exact .inr ⟨g, o, ha, hg, ET.Row.stay hM hg' hg hr u.2⟩
theorem ET.Row.stay {B : Nat} {S : Nat -> Prop} {w w' : World} (hM : ∀ k, S k -> k < B -> w'.heap[k]? = w.heap[k]?) {g : Nat} (hA : S g) (hg : g < B) : ∀ {ks : List ET} {o : Nat}, ET.Row B w g ks o -> ET.LiesL S ks -> ET.Row B w' g ks o
 | [], o, _, _ => trivial
 | e :: r, o, h, u => by
  unfold ET.Row at h ⊢
  unfold ET.LiesL at u
  refine ⟨fun j v hj => ?_, ET.In.stay hM h.2.1 u.1, ET.Row.stay hM hA hg h.2.2 u.2⟩
  rw [World.cell?_of_block (w := w) (w' := w') (hM g hA hg)]
  exact h.1 j v hj
end
mutual
theorem ET.In.lies {B : Nat} {S : Nat -> Prop} {w : World} : ∀ {e : ET}, e.In B w -> e.Lies S -> e.Lies (fun k => S k /\ k < B)
 | .mk op t b nm a c ks, h, u => by
  unfold ET.In at h
  unfold ET.Lies at u ⊢
  obtain ⟨h1, h2, h3, h4, h5, h6⟩ := h
  rcases h6 with h6 | ⟨g, o, ha, hg, hr⟩
  ·subst h6
   exact ⟨.inl rfl, trivial⟩
  ·rcases u.1 with hk | ⟨g', o', ha', hg'⟩
   ·subst hk
    exact ⟨.inl rfl, trivial⟩
   ·rw [ha] at ha'
    cases ha'
    exact ⟨.inr ⟨g, o, ha, hg', hg⟩, ET.Row.lies hr u.2⟩
theorem ET.Row.lies {B : Nat} {S : Nat -> Prop} {w : World} {g : Nat} : ∀ {ks : List ET} {o : Nat}, ET.Row B w g ks o -> ET.LiesL S ks -> ET.LiesL (fun k => S k /\ k < B) ks
 | [], o, _, _ => trivial
 | e :: r, o, h, u => by
  unfold ET.Row at h
  unfold ET.LiesL at u ⊢
  exact ⟨ET.In.lies h.2.1 u.1, ET.Row.lies h.2.2 u.2⟩
end
theorem ET.LiesL.of {S : Nat -> Prop} : ∀ {l : List ET}, (∀ e ∈ l, e.Lies S) -> ET.LiesL S l
 | [], _ => trivial
 | e :: r, h => by unfold ET.LiesL; exact ⟨h e List.mem_cons_self, ET.LiesL.of fun x hx => h x (List.mem_cons_of_mem _ hx)⟩
def Soft (w : World) (g : Nat) : Prop := ∃ t cs, At t w g cs /\ t ≠ 9
theorem Soft.keep {w w' : World} {g : Nat} (h : w'.heap[g]? = w.heap[g]?) (s : Soft w g) : Soft w' g := by
 obtain ⟨t, cs, hA, ht⟩ := s
 exact ⟨t, cs, h.trans hA, ht⟩
theorem Yf {S T : Nat -> Prop} {α : Type} {l : List α} {a : Option Addr} (h : l = [] \/ ∃ g o, a = some ⟨g, o, none⟩ /\ S g) (k : l = [] \/ ∃ g o, a = some ⟨g, o, none⟩ /\ T g) : l = [] \/ ∃ g o, a = some ⟨g, o, none⟩ /\ S g /\ T g := by
 rcases h with h | ⟨g, o, ha, hS⟩
 ·exact .inl h
 ·rcases k with k | ⟨g', o', ha', hT⟩
  ·exact .inl k
  ·rw [ha] at ha'
   cases ha'
   exact .inr ⟨g, o, ha, hS, hT⟩
mutual
theorem ET.Lies.and {S T : Nat -> Prop} : ∀ {e : ET}, e.Lies S -> e.Lies T -> e.Lies (fun k => S k /\ T k)
 | .mk _ _ _ _ a _ ks, h, k => by
  unfold ET.Lies at h k ⊢
  exact ⟨Yf h.1 k.1, ET.LiesL.and h.2 k.2⟩
theorem ET.LiesL.and {S T : Nat -> Prop} : ∀ {l : List ET}, ET.LiesL S l -> ET.LiesL T l -> ET.LiesL (fun k => S k /\ T k) l
 | [], _, _ => trivial
 | e :: r, h, k => by
  unfold ET.LiesL at h k ⊢
  exact ⟨ET.Lies.and h.1 k.1, ET.LiesL.and h.2 k.2⟩
end
def ET.Sn (B : Nat) (w : World) (y : ET) : Prop := y.In B w /\ y.Lies (Soft w)
theorem ET.Sn.stay {B : Nat} {S : Nat -> Prop} {w w' : World} {e : ET} (hM : ∀ k, S k -> k < B -> w'.heap[k]? = w.heap[k]?) (h : e.Sn B w) (u : e.Lies S) : e.Sn B w' :=
 ⟨ET.In.stay hM h.1 u, (ET.In.lies h.1 (u.and h.2)).mono fun k hk => hk.1.2.keep (hM k hk.1.1 hk.2)⟩
theorem ET.Sn.up {B C : Nat} {w : World} {e : ET} (hBC : B <= C) (h : e.Sn B w) : e.Sn C w := ⟨ET.In.up hBC h.1, h.2⟩
theorem ET.Sn.old {B : Nat} {w w' : World} {e : ET} (hO : Old B w w') (h : e.Sn B w) : e.Sn B w' :=
 ⟨ET.In.old hO h.1, (ET.In.lies h.1 h.2).mono fun k hk => hk.1.keep (hO k hk.2)⟩
theorem Vc {z : Array Value} {n : Nat} {u : Value} (h : u ∈ (Builtin.zeroCells z n).toList) : u ∈ z.toList := by
 unfold Builtin.zeroCells at h
 rw [Array.toList_map] at h
 obtain ⟨i, hi, rfl⟩ := List.mem_map.1 h
 have hi' : i < n * z.size := by simpa using hi
 have hz : 0 < z.size := by
  rcases Nat.eq_zero_or_pos z.size with q | q
  ·rw [q] at hi'; omega
  ·exact q
 have hm : i % z.size < z.size := Nat.mod_lt _ hz
 rw [getElem!_pos z (i % z.size) hm]
 exact Array.mem_toList_iff.2 (Array.getElem_mem hm)
theorem qS {xs : Array Value} {zs : Array Value} {o : Nat} {u : Value} (h : (xs ++ zs)[o]? = some u) (ho : xs.size <= o) : u ∈ zs.toList := by
 rw [Array.getElem?_append_right ho] at h
 exact Array.mem_toList_iff.2 (Array.mem_of_getElem? h)
section
variable {P : Program} (w : World)
theorem JR (t ty : TypeId) (base : Nat) (e : TypeId) (i : TypeInfo) (z : Value) (size bytes : Nat) (ht : P.underlying t = some (.slice e)) (hi : P.info? e = some i) (hz : i.zero = some z)
  (hsize : i.size = size) (hby : i.bytes = bytes) (hzs : z.cells.size = size) (hsz : 0 < size)
  (v : Value) (n : Nat) (xs : List Value) (hown : w.ownsRow base e size v n xs)
  (ad : Addr) (m c : Nat) (news : List Value) (hl : news.length = m * size) (hnews : ∀ j u, news[j]? = some u -> w.cell? (ad.add j) = some u) (h1 : ∀ u ∈ news, u.oneCell' = true)
  (hm : 0 < m) (h63 : n + m <= maxLen) (hbytes : (n + m) * bytes <= 140737488355328) (hbase : base <= w.heap.size)
  (R : Value -> Prop) (hR : ∀ k, v.ownBlock = some k -> ∀ o u, n * size <= o -> w.cell? ⟨k, o, none⟩ = some u -> R u) (hZ : ∀ u ∈ z.cells.toList, R u) :
  ∃ g cap w', (Builtin.append_ #[t, t] ty #[v, .slice (some ad) m c]).run P w = .ok (.slice (some ⟨g, 0, none⟩) (n + m) cap) w' /\
   w'.ownsRow base e size (.slice (some ⟨g, 0, none⟩) (n + m) cap) (n + m) (xs ++ news) /\ w.grownBy w' v.ownBlock /\ (v.ownBlock = some g \/ g = w.heap.size) /\ g < w'.heap.size /\
   ∀ o u, (n + m) * size <= o -> w'.cell? ⟨g, o, none⟩ = some u -> R u := by
 obtain ⟨g, cap, w', hr, h2, h3, h4, h5⟩ := run_append_lies (P := P) w t ty base e i z size bytes ht hi hz hsize hby hzs hsz v n xs hown ad m c news hl hnews h1 hm h63 hbytes hbase w.heap.size rfl
 refine ⟨g, cap, w', hr, h2, h3, h4, h5, fun o u ho hu => ?_⟩
 have hsmall : n + m <= 9223372036854775807 := by simp only [maxLen] at h63; omega
 subst hsize
 subst hby
 rcases hown.2 with ⟨rfl, rfl⟩ | ⟨g0, cap0, cur, rfl, hbg, hg, hnc, hcm, hcs, htake⟩
 ·have hb := hbytes
  simp only [Nat.zero_add] at hb
  have hr2 := run_append_nil (P := P) w t ty e i z ht hi hz ad m c news hl hnews hm (by omega) (by omega)
  rw [hr2] at hr
  injection hr with e1 e2
  injection e1 with e1 _ _
  injection e1 with e1
  injection e1 with e1
  subst e1 e2
  rw [cell_of_row _ w.heap.size o _ e (0, 0) (heap_alloc_new w.drew _)] at hu
  exact hZ u (Vc (qS hu (by rw [List.size_toArray, hl]; rw [Nat.zero_add] at ho; exact ho)))
 ·by_cases hroom : n + m <= cap0
  ·have hfit : n * i.size + news.length <= cur.size := by rw [hl, hcs, <- Nat.add_mul]; exact Nat.mul_le_mul_right _ hroom
   have hr2 := run_append_room (P := P) w t ty e i ht hi g0 n cap0 cur hg ad m c news hl hnews h1 hroom hfit
   rw [hr2] at hr
   injection hr with e1 e2
   injection e1 with e1 _ _
   injection e1 with e1
   injection e1 with e1
   subst e1 e2
   rw [cell_of_row _ g0 o _ e (0, 0) (setRow_heap w g0 cur _ e _ hg)] at hu
   have hx : n * i.size + news.length <= o := by rw [hl, <- Nat.add_mul]; exact ho
   rw [List.getElem?_toArray, Kz (by rw [yN, Yj, Array.length_toList]; omega), List.getElem?_drop] at hu
   have ho' : n * i.size + news.length + (o - (List.take (n * i.size) cur.toList ++ news).length) = o := by
    rw [yN, Yj, Array.length_toList (xs := cur)]
    omega
   rw [ho'] at hu
   refine hR g0 rfl o u (by omega) ?_
   rw [cell_of_row _ g0 o _ e (0, 0) hg, <- Array.getElem?_toList]
   exact hu
  ·have holds : ∀ j u, xs[j]? = some u -> w.cell? ((⟨g0, 0, none⟩ : Addr).add j) = some u := hown.cells (g := g0) rfl
   have hr2 := run_append_grow (P := P) w t ty e i z ht hi hz ⟨g0, 0, none⟩ n cap0 xs hown.1 holds ad m c news hl hnews (by omega) (by omega) (growslice_fits (by omega) hbytes)
   rw [hr2] at hr
   injection hr with e1 e2
   injection e1 with e1 _ _
   injection e1 with e1
   injection e1 with e1
   subst e1 e2
   rw [cell_of_row _ w.heap.size o _ e (0, 0) (heap_alloc_new w.drew _)] at hu
   refine hZ u (Vc (qS hu ?_))
   rw [Array.size_append, List.size_toArray, List.size_toArray, hown.1, hl, <- Nat.add_mul]
   exact ho
theorem XH {o : Oper} {a : Act} {K : Act -> World -> Prop} {Q : Exit -> Act -> World -> Prop} (s x : Operand) (t : TypeId)
  (ho : o.op = .call { callee := .builtin .append, args := #[s, x], argTypes := #[t, t] })
  (base : Nat) (e : TypeId) (i : TypeInfo) (z : Value) (size bytes : Nat) (ht : P.underlying t = some (.slice e)) (hi : P.info? e = some i) (hz : i.zero = some z)
  (hsize : i.size = size) (hby : i.bytes = bytes) (hzs : z.cells.size = size) (hsz : 0 < size)
  (v : Value) (n : Nat) (xs : List Value) (hs : a.eval s = v) (hown : w.ownsRow base e size v n xs)
  (ad : Addr) (m c : Nat) (news : List Value) (hx : a.eval x = .slice (some ad) m c) (hl : news.length = m * size) (hnews : ∀ j u, news[j]? = some u -> w.cell? (ad.add j) = some u) (h1 : ∀ u ∈ news, u.oneCell' = true)
  (hm : 0 < m) (h63 : n + m <= maxLen) (hbytes : (n + m) * bytes <= 140737488355328) (hbase : base <= w.heap.size)
  (R : Value -> Prop) (hR : ∀ k, v.ownBlock = some k -> ∀ o u, n * size <= o -> w.cell? ⟨k, o, none⟩ = some u -> R u) (hZ : ∀ u ∈ z.cells.toList, R u)
  (h : ∀ g cap w', w'.ownsRow base e size (.slice (some ⟨g, 0, none⟩) (n + m) cap) (n + m) (xs ++ news) -> w.grownBy w' v.ownBlock -> (v.ownBlock = some g \/ g = w.heap.size) -> (∀ o u, (n + m) * size <= o -> w'.cell? ⟨g, o, none⟩ = some u -> R u) -> K (a.put o.dst (.slice (some ⟨g, 0, none⟩) (n + m) cap)) w') : o.wp P a w K Q := by
 obtain ⟨g, cap, w', hr, h2, h3, h4, h5, h6⟩ := JR (P := P) w t o.type base e i z size bytes ht hi hz hsize hby hzs hsz v n xs hown ad m c news hl hnews h1 hm h63 hbytes hbase R hR hZ
 unfold Oper.wp execOp
 simp only [ho, resolve, invoke, builtin, Sem.run_bind, Sem.run_pure, Result.andThen_ok, List.map_toArray, Yi, List.map_nil, hs, hx, hr]
 exact h g cap w' h2 h3 h4 h6
end
def hdT : List Tk -> Tk
 | [] => ⟨0, [], 0, 0⟩
 | t :: _ => t
inductive Rs (α : Type) where
 | ok (v : α) (r : List Tk)
 | bad (e p : Nat)
def zB (x : List UInt8) : Nat × Nat :=
 if x = [124, 124] then (3, 1) else if x = [38, 38] then (4, 2)
 else if x = [61, 61] then (5, 3) else if x = [33, 61] then (6, 3) else if x = [60] then (7, 3) else if x = [60, 61] then (8, 3) else if x = [62] then (9, 3) else if x = [62, 61] then (10, 3)
 else if x = [43] then (11, 4) else if x = [45] then (12, 4)
 else if x = [42] then (13, 5) else if x = [47] then (14, 5) else if x = [37] then (15, 5) else (0, 0)
def zL (x : List UInt8) : Nat :=
 if x = [45] then 16 else if x = [33] then 17 else if x = [105, 110, 116] then 18 else if x = [114, 101, 97, 108] then 19 else 0
def zW (t : Tk) : Option (Nat × Nat) :=
 if t.text = [116, 114, 117, 101] then some (2, 1) else if t.text = [102, 97, 108, 115, 101] then some (2, 0)
 else if t.text = [110, 97, 110] then some (3, 9221120237041090560) else if t.text = [105, 110, 102] then some (3, 9218868437227405312)
 else if t.kind = 2 \/ t.kind = 3 then some (yh t.kind, t.bits) else none
def ZN (l : List Tk) : Rs Ex :=
 match zW (hdT l) with
 | some v => .ok (.mk 1 v.1 v.2 [] []) l.tail
 | none => if Yg (hdT l).text then .ok (.mk 2 0 0 (hdT l).text []) l.tail else .bad 4 (hdT l).place
def yg (p op : Nat) (ks : List Ex) (r : List Tk) : Rs Ex := if 32 < htX (.mk op 0 0 [] ks) then .bad 160 p else .ok (.mk op 0 0 [] ks) r
def zq (x : List UInt8) (l : List Tk) : Rs Unit := if (hdT l).text = x then .ok () l.tail else .bad 4 (hdT l).place
def Xs (t : Nat) : Nat := if t = 3 then 2 else t
mutual
def y6 : Nat -> Nat -> Nat -> List Tk -> Option (Rs Ex)
 | 0, _, _, _ => none
 | f + 1, least, d, l => match operF f d l with
  | none => none
  | some (.bad e p) => some (.bad e p)
  | some (.ok x r) => loopF f least 5 d x r
def loopF : Nat -> Nat -> Nat -> Nat -> Ex -> List Tk -> Option (Rs Ex)
 | 0, _, _, _, _, _ => none
 | f + 1, least, most, d, x, l =>
  if (zB (hdT l).text).2 < least \/ most < (zB (hdT l).text).2 then some (.ok x l)
  else match y6 f ((zB (hdT l).text).2 + 1) d l.tail with
   | none => none
   | some (.bad e p) => some (.bad e p)
   | some (.ok y r) => match yg (hdT l).place (zB (hdT l).text).1 [x, y] r with
    | .bad e p => some (.bad e p)
    | .ok z r => loopF f least (Xs (zB (hdT l).text).2) d z r
def operF : Nat -> Nat -> List Tk -> Option (Rs Ex)
 | 0, _, _ => none
 | f + 1, d, l =>
  if zL (hdT l).text = 0 /\ (hdT l).text ≠ [40] then some (ZN l)
  else if 32 <= d then some (.bad 160 (hdT l).place)
  else if zL (hdT l).text = 16 \/ zL (hdT l).text = 17 then
   match operF f (d + 1) l.tail with
   | none => none
   | some (.bad e p) => some (.bad e p)
   | some (.ok y r) => some (yg (hdT l).place (zL (hdT l).text) [y] r)
  else if zL (hdT l).text = 0 then brkF f d l
  else match brkF f d l.tail with
   | none => none
   | some (.bad e p) => some (.bad e p)
   | some (.ok y r) => some (yg (hdT l).place (zL (hdT l).text) [y] r)
def brkF : Nat -> Nat -> List Tk -> Option (Rs Ex)
 | 0, _, _ => none
 | f + 1, d, l => match zq [40] l with
  | .bad e p => some (.bad e p)
  | .ok _ r => match y6 f 1 (d + 1) r with
   | none => none
   | some (.bad e p) => some (.bad e p)
   | some (.ok y r) => match zq [41] r with
    | .bad e p => some (.bad e p)
    | .ok _ r => some (.ok y r)
end
theorem more (f : Nat) :
  (∀ n d l r, y6 f n d l = some r -> y6 (f + 1) n d l = some r) /\
  (∀ n m d x l r, loopF f n m d x l = some r -> loopF (f + 1) n m d x l = some r) /\
  (∀ d l r, operF f d l = some r -> operF (f + 1) d l = some r) /\
  (∀ d l r, brkF f d l = some r -> brkF (f + 1) d l = some r) := by
 induction f with
 | zero => exact ⟨fun n d l r h => by simp [y6] at h, fun n m d x l r h => by simp [loopF] at h, fun d l r h => by simp [operF] at h, fun d l r h => by simp [brkF] at h⟩
 | succ f ih =>
  obtain ⟨ih1, ih2, ih3, ih4⟩ := ih
  refine ⟨fun n d l r h => ?_, fun n m d x l r h => ?_, fun d l r h => ?_, fun d l r h => ?_⟩
  ·rw [y6] at h ⊢
   cases hc : operF f d l with
   | none => rw [hc] at h; cases h
   | some y =>
    rw [hc] at h
    rw [ih3 d l y hc]
    cases y with
    | bad e p => exact h
    | ok y r' => exact ih2 _ _ _ _ _ _ h
  ·rw [loopF] at h ⊢
   split at h
   ·next hc => rw [zi hc]; exact h
   ·next hc =>
    rw [ze hc]
    cases hc : y6 f ((zB (hdT l).text).2 + 1) d l.tail with
    | none => rw [hc] at h; cases h
    | some y =>
     rw [hc] at h
     rw [ih1 _ _ _ y hc]
     cases y with
     | bad e p => exact h
     | ok y r' =>
      dsimp only at h ⊢
      cases hn : yg (hdT l).place (zB (hdT l).text).1 [x, y] r' with
      | bad e p => rw [hn] at h; exact h
      | ok z r'' => rw [hn] at h; exact ih2 _ _ _ _ _ _ h
  ·rw [operF] at h ⊢
   split at h
   ·next hc => rw [zi hc]; exact h
   ·next hc =>
    rw [ze hc]
    split at h
    ·next hc => rw [zi hc]; exact h
    ·next hc =>
     rw [ze hc]
     split at h
     ·next hc =>
      rw [zi hc]
      cases hc : operF f (d + 1) l.tail with
      | none => rw [hc] at h; cases h
      | some y => rw [hc] at h; rw [ih3 _ _ y hc]; exact h
     ·next hc =>
      rw [ze hc]
      split at h
      ·next hc => rw [zi hc]; exact ih4 _ _ _ h
      ·next hc =>
       rw [ze hc]
       cases hc : brkF f d l.tail with
       | none => rw [hc] at h; cases h
       | some y => rw [hc] at h; rw [ih4 _ _ y hc]; exact h
  ·rw [brkF] at h ⊢
   cases hm : zq [40] l with
   | bad e p => rw [hm] at h; exact h
   | ok u r' =>
    rw [hm] at h
    dsimp only at h ⊢
    cases hc : y6 f 1 (d + 1) r' with
    | none => rw [hc] at h; cases h
    | some y => rw [hc] at h; rw [ih1 _ _ _ y hc]; exact h
theorem VQ {f g n d l r} (h : y6 f n d l = some r) (hfg : f <= g) : y6 g n d l = some r := by
 induction hfg with
 | refl => exact h
 | step _ ih => exact (more _).1 _ _ _ _ ih
theorem VW {f g n m d x l r} (h : loopF f n m d x l = some r) (hfg : f <= g) : loopF g n m d x l = some r := by
 induction hfg with
 | refl => exact h
 | step _ ih => exact (more _).2.1 _ _ _ _ _ _ ih
theorem zar {f g d l r} (h : operF f d l = some r) (hfg : f <= g) : operF g d l = some r := by
 induction hfg with
 | refl => exact h
 | step _ ih => exact (more _).2.2.1 _ _ _ ih
theorem zfU {f g d l r} (h : brkF f d l = some r) (hfg : f <= g) : brkF g d l = some r := by
 induction hfg with
 | refl => exact h
 | step _ ih => exact (more _).2.2.2 _ _ _ ih
def Rs.Left {α : Type} (n : Nat) : Rs α -> Prop
 | .ok _ r => r.length < n
 | .bad _ _ => True
theorem yl {l : List Tk} (h : (hdT l).text ≠ []) : l.tail.length < l.length := by
 cases l with
 | nil => exact absurd rfl h
 | cons t r => simp
theorem Xr {p op : Nat} {ks : List Ex} {r : List Tk} {n : Nat} (h : r.length < n) : (yg p op ks r).Left n := by
 unfold yg
 split
 ·trivial
 ·exact h
theorem Kt (l : List Tk) : (ZN l).Left l.length := by
 cases l with
 | nil =>
  have h1 : zW (hdT []) = none := rfl
  have h2 : Yg (hdT []).text = false := rfl
  unfold ZN
  rw [h1, h2]
  trivial
 | cons t r =>
  unfold ZN
  split
  ·simp [Rs.Left]
  ·split
   ·simp [Rs.Left]
   ·trivial
theorem yG {x : List UInt8} {l : List Tk} (hx : x ≠ []) : (zq x l).Left l.length := by
 unfold zq
 split
 ·next h => exact yl (by rw [h]; exact hx)
 ·trivial
theorem X1 {l : List Tk} (h : 1 <= (zB (hdT l).text).2) : (hdT l).text ≠ [] := by
 intro e
 rw [e] at h
 exact absurd h (by decide)
theorem zas {l : List Tk} (h : ¬ (zL (hdT l).text = 0 /\ (hdT l).text ≠ [40])) : (hdT l).text ≠ [] := by
 intro e
 rw [e] at h
 exact h ⟨by decide, by decide⟩
theorem total (N : Nat) : ∀ l : List Tk, l.length <= N ->
  (∀ d, ∃ f r, operF f d l = some r /\ r.Left l.length) /\
  (∀ d, ∃ f r, brkF f d l = some r /\ r.Left l.length) /\
  (∀ n d, 1 <= n -> ∃ f r, y6 f n d l = some r /\ r.Left l.length) /\
  (∀ n m d x, 1 <= n -> ∃ f r, loopF f n m d x l = some r /\ r.Left (l.length + 1)) := by
 induction N with
 | zero =>
  intro l hl
  obtain rfl : l = [] := List.eq_nil_of_length_eq_zero (by omega)
  have ho : ∀ d, operF 1 d [] = some (.bad 4 0) := fun d => by rw [operF, zi ⟨by decide, by decide⟩]; rfl
  refine ⟨fun d => ⟨1, _, ho d, trivial⟩, fun d => ⟨1, .bad 4 0, by rw [brkF]; rfl, trivial⟩, fun n d _ => ⟨2, .bad 4 0, ?_, trivial⟩, fun n m d x hn => ⟨1, .ok x [], ?_, by simp [Rs.Left]⟩⟩
  ·rw [y6, ho]
  ·rw [loopF, zi (.inl (by show 0 < n; omega))]
 | succ N ih =>
  intro l hl
  have hB : ∀ d, ∃ f r, brkF f d l = some r /\ r.Left l.length := by
   intro d
   have hm := yG (x := [40]) (l := l) (by decide)
   cases h1 : zq [40] l with
   | bad e p => exact ⟨1, .bad e p, by rw [brkF, h1], trivial⟩
   | ok u r =>
    rw [h1] at hm
    have hm : r.length < l.length := hm
    obtain ⟨f, y, hy, hl2⟩ := (ih r (by omega)).2.2.1 1 (d + 1) (zj _)
    cases y with
    | bad e p => exact ⟨f + 1, .bad e p, by rw [brkF, h1]; dsimp only; rw [hy], trivial⟩
    | ok y r2 =>
     have hl2 : r2.length < r.length := hl2
     have hm2 := yG (x := [41]) (l := r2) (by decide)
     cases h2 : zq [41] r2 with
     | bad e p => exact ⟨f + 1, .bad e p, by rw [brkF, h1]; dsimp only; rw [hy]; dsimp only; rw [h2], trivial⟩
     | ok u r3 =>
      rw [h2] at hm2
      have hm2 : r3.length < r2.length := hm2
      exact ⟨f + 1, .ok y r3, by rw [brkF, h1]; dsimp only; rw [hy]; dsimp only; rw [h2], by show r3.length < _; omega⟩
  have hO : ∀ d, ∃ f r, operF f d l = some r /\ r.Left l.length := by
   intro d
   by_cases c1 : zL (hdT l).text = 0 /\ (hdT l).text ≠ [40]
   ·exact ⟨1, ZN l, by rw [operF, zi c1], Kt l⟩
   ·have ht := yl (zas c1)
    by_cases c2 : 32 <= d
    ·exact ⟨1, .bad 160 (hdT l).place, by rw [operF, ze c1, zi c2], trivial⟩
    ·by_cases c3 : zL (hdT l).text = 16 \/ zL (hdT l).text = 17
     ·obtain ⟨f, y, hy, hl2⟩ := (ih l.tail (by omega)).1 (d + 1)
      cases y with
      | bad e p => exact ⟨f + 1, .bad e p, by rw [operF, ze c1, ze c2, zi c3, hy], trivial⟩
      | ok y r2 => exact ⟨f + 1, _, by rw [operF, ze c1, ze c2, zi c3, hy], Xr (by have : r2.length < l.tail.length := hl2; omega)⟩
     ·by_cases c4 : zL (hdT l).text = 0
      ·obtain ⟨f, y, hy, hl2⟩ := hB d
       exact ⟨f + 1, y, by rw [operF, ze c1, ze c2, ze c3, zi c4, hy], hl2⟩
      ·obtain ⟨f, y, hy, hl2⟩ := (ih l.tail (by omega)).2.1 d
       cases y with
       | bad e p => exact ⟨f + 1, .bad e p, by rw [operF, ze c1, ze c2, ze c3, ze c4, hy], trivial⟩
       | ok y r2 => exact ⟨f + 1, _, by rw [operF, ze c1, ze c2, ze c3, ze c4, hy], Xr (by have : r2.length < l.tail.length := hl2; omega)⟩
  refine ⟨hO, hB, fun n d hn => ?_, fun n m d x hn => ?_⟩
  ·obtain ⟨f, y, hy, hl2⟩ := hO d
   cases y with
   | bad e p => exact ⟨f + 1, .bad e p, by rw [y6, hy], trivial⟩
   | ok y r2 =>
    have hl2 : r2.length < l.length := hl2
    obtain ⟨f2, z, hz, hl3⟩ := (ih r2 (by omega)).2.2.2 n 5 d y hn
    refine ⟨max f f2 + 1, z, ?_, ?_⟩
    ·rw [y6, zar hy (by omega)]
     exact VW hz (by omega)
    ·cases z with
     | bad e p => trivial
     | ok z r3 => show r3.length < _; have : r3.length < r2.length + 1 := hl3; omega
  ·by_cases c1 : (zB (hdT l).text).2 < n \/ m < (zB (hdT l).text).2
   ·exact ⟨1, .ok x l, by rw [loopF, zi c1], by simp [Rs.Left]⟩
   ·have ht := yl (X1 (l := l) (by omega))
    obtain ⟨f, y, hy, hl2⟩ := (ih l.tail (by omega)).2.2.1 ((zB (hdT l).text).2 + 1) d (by omega)
    cases y with
    | bad e p => exact ⟨f + 1, .bad e p, by rw [loopF, ze c1, hy], trivial⟩
    | ok y r2 =>
     have hl2 : r2.length < l.tail.length := hl2
     cases hn2 : yg (hdT l).place (zB (hdT l).text).1 [x, y] r2 with
     | bad e p => exact ⟨f + 1, .bad e p, by rw [loopF, ze c1, hy]; dsimp only; rw [hn2], trivial⟩
     | ok z r3 =>
      have h3 : r3 = r2 := by
       unfold yg at hn2
       split at hn2
       ·cases hn2
       ·cases hn2; rfl
      subst h3
      obtain ⟨f2, u, hu, hl4⟩ := (ih r3 (by omega)).2.2.2 n (Xs (zB (hdT l).text).2) d z hn
      refine ⟨max f f2 + 1, u, ?_, ?_⟩
      ·rw [loopF, ze c1, VQ hy (show f <= max f f2 by omega)]
       dsimp only
       rw [hn2]
       exact VW hu (by omega)
      ·cases u with
       | bad e p => trivial
       | ok u r5 => show r5.length < _; have : r5.length < r3.length + 1 := hl4; omega
theorem zcP (l : List Tk) (n d : Nat) (hn : 1 <= n) : ∃ f r, y6 f n d l = some r := by
 obtain ⟨f, r, h, -⟩ := (total l.length l (zj _)).2.2.1 n d hn
 exact ⟨f, r, h⟩
theorem zfl {f g n d l r s} (h : y6 f n d l = some r) (k : y6 g n d l = some s) : r = s := by
 have h1 := VQ h (show f <= max f g by omega)
 have h2 := VQ k (show g <= max f g by omega)
 rw [h1] at h2
 exact yZ h2
mutual
def yJ : Nat -> Nat -> Nat -> List Tk -> Option (Rs Ex)
 | 0, _, _, _ => none
 | f + 1, n, d, l => if 4 < n then unF f d l else match yJ f (n + 1) d l with
  | none => none
  | some (.bad e p) => some (.bad e p)
  | some (.ok x r) => lpF f n d x r
def lpF : Nat -> Nat -> Nat -> Ex -> List Tk -> Option (Rs Ex)
 | 0, _, _, _, _ => none
 | f + 1, n, d, x, l =>
  if (zB (hdT l).text).2 ≠ n + 1 then some (.ok x l)
  else match yJ f (n + 1) d l.tail with
   | none => none
   | some (.bad e p) => some (.bad e p)
   | some (.ok y r) => match yg (hdT l).place (zB (hdT l).text).1 [x, y] r with
    | .bad e p => some (.bad e p)
    | .ok z r => if n = 2 then some (.ok z r) else lpF f n d z r
def unF : Nat -> Nat -> List Tk -> Option (Rs Ex)
 | 0, _, _ => none
 | f + 1, d, l =>
  if zL (hdT l).text = 0 /\ (hdT l).text ≠ [40] then some (ZN l)
  else if 32 <= d then some (.bad 160 (hdT l).place)
  else if zL (hdT l).text = 16 \/ zL (hdT l).text = 17 then
   match unF f (d + 1) l.tail with
   | none => none
   | some (.bad e p) => some (.bad e p)
   | some (.ok y r) => some (yg (hdT l).place (zL (hdT l).text) [y] r)
  else if zL (hdT l).text = 0 then bkF f d l
  else match bkF f d l.tail with
   | none => none
   | some (.bad e p) => some (.bad e p)
   | some (.ok y r) => some (yg (hdT l).place (zL (hdT l).text) [y] r)
def bkF : Nat -> Nat -> List Tk -> Option (Rs Ex)
 | 0, _, _ => none
 | f + 1, d, l => match zq [40] l with
  | .bad e p => some (.bad e p)
  | .ok _ r => match yJ f 0 (d + 1) r with
   | none => none
   | some (.bad e p) => some (.bad e p)
   | some (.ok y r) => match zq [41] r with
    | .bad e p => some (.bad e p)
    | .ok _ r => some (.ok y r)
end
theorem zf8 (f : Nat) :
  (∀ n d l r, yJ f n d l = some r -> yJ (f + 1) n d l = some r) /\
  (∀ n d x l r, lpF f n d x l = some r -> lpF (f + 1) n d x l = some r) /\
  (∀ d l r, unF f d l = some r -> unF (f + 1) d l = some r) /\
  (∀ d l r, bkF f d l = some r -> bkF (f + 1) d l = some r) := by
 induction f with
 | zero => exact ⟨fun n d l r h => by simp [yJ] at h, fun n d x l r h => by simp [lpF] at h, fun d l r h => by simp [unF] at h, fun d l r h => by simp [bkF] at h⟩
 | succ f ih =>
  obtain ⟨ih1, ih2, ih3, ih4⟩ := ih
  refine ⟨fun n d l r h => ?_, fun n d x l r h => ?_, fun d l r h => ?_, fun d l r h => ?_⟩
  ·rw [yJ] at h ⊢
   split at h
   ·next hc => rw [zi hc]; exact ih3 _ _ _ h
   ·next hc =>
    rw [ze hc]
    cases hc : yJ f (n + 1) d l with
    | none => rw [hc] at h; cases h
    | some y =>
     rw [hc] at h
     rw [ih1 _ _ _ y hc]
     cases y with
     | bad e p => exact h
     | ok y r' => exact ih2 _ _ _ _ _ h
  ·rw [lpF] at h ⊢
   split at h
   ·next hc => rw [zi hc]; exact h
   ·next hc =>
    rw [ze hc]
    cases hc : yJ f (n + 1) d l.tail with
    | none => rw [hc] at h; cases h
    | some y =>
     rw [hc] at h
     rw [ih1 _ _ _ y hc]
     cases y with
     | bad e p => exact h
     | ok y r' =>
      dsimp only at h ⊢
      cases hn : yg (hdT l).place (zB (hdT l).text).1 [x, y] r' with
      | bad e p => rw [hn] at h; exact h
      | ok z r'' =>
       rw [hn] at h
       dsimp only at h ⊢
       split at h
       ·next hc => rw [zi hc]; exact h
       ·next hc => rw [ze hc]; exact ih2 _ _ _ _ _ h
  ·rw [unF] at h ⊢
   split at h
   ·next hc => rw [zi hc]; exact h
   ·next hc =>
    rw [ze hc]
    split at h
    ·next hc => rw [zi hc]; exact h
    ·next hc =>
     rw [ze hc]
     split at h
     ·next hc =>
      rw [zi hc]
      cases hc : unF f (d + 1) l.tail with
      | none => rw [hc] at h; cases h
      | some y => rw [hc] at h; rw [ih3 _ _ y hc]; exact h
     ·next hc =>
      rw [ze hc]
      split at h
      ·next hc => rw [zi hc]; exact ih4 _ _ _ h
      ·next hc =>
       rw [ze hc]
       cases hc : bkF f d l.tail with
       | none => rw [hc] at h; cases h
       | some y => rw [hc] at h; rw [ih4 _ _ y hc]; exact h
  ·rw [bkF] at h ⊢
   cases hm : zq [40] l with
   | bad e p => rw [hm] at h; exact h
   | ok u r' =>
    rw [hm] at h
    dsimp only at h ⊢
    cases hc : yJ f 0 (d + 1) r' with
    | none => rw [hc] at h; cases h
    | some y => rw [hc] at h; rw [ih1 _ _ _ y hc]; exact h
theorem VO {f g n d l r} (h : yJ f n d l = some r) (hfg : f <= g) : yJ g n d l = some r := by
 induction hfg with
 | refl => exact h
 | step _ ih => exact (zf8 _).1 _ _ _ _ ih
theorem zeg {f g n d x l r} (h : lpF f n d x l = some r) (hfg : f <= g) : lpF g n d x l = some r := by
 induction hfg with
 | refl => exact h
 | step _ ih => exact (zf8 _).2.1 _ _ _ _ _ ih
def RU (n d : Nat) (l : List Tk) (r : Rs Ex) : Prop := ∃ f, yJ f n d l = some r
def LP (n d : Nat) (x : Ex) (l : List Tk) (r : Rs Ex) : Prop := ∃ f, lpF f n d x l = some r
def Ct (d least : Nat) : Nat -> Ex -> List Tk -> Rs Ex -> Prop
 | 0, x, l, r => r = .ok x l
 | m + 1, x, l, r => if m + 1 < least then r = .ok x l else ∃ r1, LP m d x l r1 /\ match r1 with
  | .bad e p => r = .bad e p
  | .ok y k => Ct d least m y k r
theorem LP.stop {n d : Nat} {x : Ex} {l : List Tk} (h : (zB (hdT l).text).2 ≠ n + 1) : LP n d x l (.ok x l) := ⟨1, by rw [lpF, zi h]⟩
theorem Ct.stop {d least : Nat} : ∀ {m : Nat} {x : Ex} {l : List Tk}, (zB (hdT l).text).2 < least \/ m < (zB (hdT l).text).2 -> Ct d least m x l (.ok x l)
 | 0, x, l, _ => rfl
 | m + 1, x, l, h => by
  unfold Ct
  split
  ·rfl
  ·exact ⟨_, LP.stop (by omega), Ct.stop (by omega)⟩
theorem Ct.down {d least t : Nat} {x : Ex} {l : List Tk} {r : Rs Ex} (ht : (zB (hdT l).text).2 = t) : ∀ {m : Nat}, least <= t -> t <= m -> Ct d least t x l r -> Ct d least m x l r
 | 0, h1, h2, h => by
  obtain rfl : t = 0 := by omega
  exact h
 | m + 1, h1, h2, h => by
  by_cases e : t = m + 1
  ·subst e; exact h
  ·unfold Ct
   rw [ze (by omega)]
   exact ⟨_, LP.stop (by omega), Ct.down ht h1 (by omega) h⟩
theorem RU.of_un {d : Nat} {l : List Tk} {r : Rs Ex} (h : ∃ f, unF f d l = some r) : RU 5 d l r := by
 obtain ⟨f, h⟩ := h
 exact ⟨f + 1, by rw [yJ, zi (by omega), h]⟩
theorem RU.of {n d : Nat} {l : List Tk} {r1 r : Rs Ex} (hn : n <= 4) (h : RU (n + 1) d l r1) (k : match r1 with | .bad e p => r = .bad e p | .ok y k => LP n d y k r) : RU n d l r := by
 obtain ⟨f, h⟩ := h
 cases r1 with
 | bad e p =>
  cases k
  exact ⟨f + 1, by rw [yJ, ze (by omega), h]⟩
 | ok y k' =>
  obtain ⟨g, k⟩ := k
  refine ⟨max f g + 1, ?_⟩
  rw [yJ, ze (by omega), VO h (by omega)]
  exact zeg k (by omega)
theorem RU.ct {d : Nat} {l : List Tk} {x : Ex} {k : List Tk} {r : Rs Ex} {least : Nat} (hl : 1 <= least) : ∀ {m : Nat}, m <= 5 -> least <= m + 1 -> RU m d l (.ok x k) -> Ct d least m x k r -> RU (least - 1) d l r
 | 0, _, h1, h, c => by
  obtain rfl : least = 1 := by omega
  cases c
  exact h
 | m + 1, hm, h1, h, c => by
  unfold Ct at c
  split at c
  ·next h2 =>
   obtain rfl : least = m + 2 := by omega
   cases c
   exact h
  ·next h2 =>
   obtain ⟨r1, c1, c2⟩ := c
   have hr := RU.of (n := m) (r := r1) (by omega) h c1
   cases r1 with
   | ok y k2 => exact RU.ct hl (by omega) (by omega) hr c2
   | bad e p =>
    cases c2
    clear h c1
    have go : ∀ j, j <= m -> RU (m - j) d l (.bad e p) := by
     intro j
     induction j with
     | zero => intro _; exact hr
     | succ j ih =>
      intro hj
      have := ih (by omega)
      rw [show m - j = (m - (j + 1)) + 1 by omega] at this
      exact RU.of (by omega) this rfl
    have := go (m - (least - 1)) (by omega)
    rwa [show m - (m - (least - 1)) = least - 1 by omega] at this
theorem LP.step {n d : Nat} {x : Ex} {l : List Tk} {r1 r : Rs Ex} (ht : (zB (hdT l).text).2 = n + 1) (h : RU (n + 1) d l.tail r1)
  (k : match r1 with
   | .bad e p => r = .bad e p
   | .ok y k => match yg (hdT l).place (zB (hdT l).text).1 [x, y] k with
    | .bad e p => r = .bad e p
    | .ok z k => if n = 2 then r = .ok z k else LP n d z k r) : LP n d x l r := by
 obtain ⟨f, h⟩ := h
 cases r1 with
 | bad e p =>
  cases k
  exact ⟨f + 1, by rw [lpF, ze (by omega), h]⟩
 | ok y k' =>
  dsimp only at k
  cases hn : yg (hdT l).place (zB (hdT l).text).1 [x, y] k' with
  | bad e p =>
   rw [hn] at k
   cases k
   exact ⟨f + 1, by rw [lpF, ze (by omega), h]; dsimp only; rw [hn]⟩
  | ok z k2 =>
   rw [hn] at k
   dsimp only at k
   split at k
   ·next h2 =>
    cases k
    exact ⟨f + 1, by rw [lpF, ze (by omega), h]; dsimp only; rw [hn]; dsimp only; rw [zi h2]⟩
   ·next h2 =>
    obtain ⟨g, k⟩ := k
    refine ⟨max f g + 1, ?_⟩
    rw [lpF, ze (by omega), VO h (show f <= max f g by omega)]
    dsimp only
    rw [hn]
    dsimp only
    rw [ze h2]
    exact zeg k (by omega)
theorem zcr (x : List UInt8) : (zB x).2 <= 5 := by
 have go : ∀ (c : Prop) [Decidable c] (a b : Nat × Nat), a.2 <= 5 -> b.2 <= 5 -> (if c then a else b).2 <= 5 := fun c _ a b h1 h2 => by
  by_cases h : c
  ·rw [zi h]; exact h1
  ·rw [ze h]; exact h2
 unfold zB
 repeat' (first | exact (by decide : (5 : Nat) <= 5) | apply go)
 all_goals exact Nat.le_of_ble_eq_true rfl
theorem zgb (f : Nat) :
  (∀ n d l r, 1 <= n -> n <= 6 -> y6 f n d l = some r -> RU (n - 1) d l r) /\
  (∀ n m d x l r, 1 <= n -> m <= 5 -> loopF f n m d x l = some r -> Ct d n m x l r) /\
  (∀ d l r, operF f d l = some r -> ∃ g, unF g d l = some r) /\
  (∀ d l r, brkF f d l = some r -> ∃ g, bkF g d l = some r) := by
 induction f with
 | zero => exact ⟨fun n d l r _ _ h => by simp [y6] at h, fun n m d x l r _ _ h => by simp [loopF] at h, fun d l r h => by simp [operF] at h, fun d l r h => by simp [brkF] at h⟩
 | succ f ih =>
  obtain ⟨ih1, ih2, ih3, ih4⟩ := ih
  refine ⟨fun n d l r hn hn6 h => ?_, fun n m d x l r hn hm h => ?_, fun d l r h => ?_, fun d l r h => ?_⟩
  ·rw [y6] at h
   cases hc : operF f d l with
   | none => rw [hc] at h; cases h
   | some y =>
    rw [hc] at h
    have hu := RU.of_un (ih3 d l y hc)
    cases y with
    | bad e p =>
     cases h
     have go : ∀ j, j <= 5 -> RU (5 - j) d l (.bad e p) := by
      intro j
      induction j with
      | zero => intro _; exact hu
      | succ j ih =>
       intro hj
       have := ih (by omega)
       rw [show 5 - j = (5 - (j + 1)) + 1 by omega] at this
       exact RU.of (by omega) this rfl
     have := go (5 - (n - 1)) (by omega)
     rwa [show 5 - (5 - (n - 1)) = n - 1 by omega] at this
    | ok y r' => exact RU.ct hn (zj _) (by omega) hu (ih2 _ _ _ _ _ _ hn (zj _) h)
  ·rw [loopF] at h
   have hb := zcr (hdT l).text
   split at h
   ·next hc => cases h; exact Ct.stop hc
   ·next hc =>
    refine Ct.down (t := (zB (hdT l).text).2) rfl (by omega) (by omega) ?_
    obtain ⟨t, ht⟩ : ∃ t, (zB (hdT l).text).2 = t + 1 := ⟨(zB (hdT l).text).2 - 1, by omega⟩
    rw [ht] at h hb hc ⊢
    unfold Ct
    rw [ze (by omega)]
    cases hr : y6 f (t + 1 + 1) d l.tail with
    | none => rw [hr] at h; cases h
    | some y =>
     rw [hr] at h
     have hu := ih1 _ _ _ _ (by omega) (by omega) hr
     rw [show t + 1 + 1 - 1 = t + 1 by omega] at hu
     cases y with
     | bad e p => cases h; exact ⟨.bad e p, LP.step ht hu rfl, rfl⟩
     | ok y r' =>
      dsimp only at h
      cases hn2 : yg (hdT l).place (zB (hdT l).text).1 [x, y] r' with
      | bad e p =>
       rw [hn2] at h
       cases h
       exact ⟨.bad e p, LP.step ht hu (by dsimp only; rw [hn2]), rfl⟩
      | ok z r2 =>
       rw [hn2] at h
       dsimp only at h
       have hc2 := ih2 _ _ _ _ _ _ hn (by unfold Xs; split <;> omega) h
       by_cases h3 : t + 1 = 3
       ·obtain rfl : t = 2 := by omega
        exact ⟨.ok z r2, LP.step ht hu (by dsimp only; rw [hn2]; dsimp only; rw [zi rfl]), hc2⟩
       ·rw [show Xs (t + 1) = t + 1 by unfold Xs; rw [ze h3]] at hc2
        unfold Ct at hc2
        rw [ze (by omega)] at hc2
        obtain ⟨r1, c1, c2⟩ := hc2
        exact ⟨r1, LP.step ht hu (by dsimp only; rw [hn2]; dsimp only; rw [ze (by omega)]; exact c1), c2⟩
  ·rw [operF] at h
   split at h
   ·next c1 => exact ⟨1, by rw [unF, zi c1]; exact h⟩
   ·next c1 =>
    split at h
    ·next c2 => exact ⟨1, by rw [unF, ze c1, zi c2]; exact h⟩
    ·next c2 =>
     split at h
     ·next c3 =>
      cases hc : operF f (d + 1) l.tail with
      | none => rw [hc] at h; cases h
      | some y =>
       rw [hc] at h
       obtain ⟨g, hg⟩ := ih3 _ _ _ hc
       exact ⟨g + 1, by rw [unF, ze c1, ze c2, zi c3, hg]; exact h⟩
     ·next c3 =>
      split at h
      ·next c4 =>
       obtain ⟨g, hg⟩ := ih4 _ _ _ h
       exact ⟨g + 1, by rw [unF, ze c1, ze c2, ze c3, zi c4, hg]⟩
      ·next c4 =>
       cases hc : brkF f d l.tail with
       | none => rw [hc] at h; cases h
       | some y =>
        rw [hc] at h
        obtain ⟨g, hg⟩ := ih4 _ _ _ hc
        exact ⟨g + 1, by rw [unF, ze c1, ze c2, ze c3, ze c4, hg]; exact h⟩
  ·rw [brkF] at h
   cases hm : zq [40] l with
   | bad e p => rw [hm] at h; exact ⟨1, by rw [bkF, hm]; exact h⟩
   | ok u r' =>
    rw [hm] at h
    dsimp only at h
    cases hc : y6 f 1 (d + 1) r' with
    | none => rw [hc] at h; cases h
    | some y =>
     rw [hc] at h
     obtain ⟨g, hg⟩ := ih1 _ _ _ _ (zj _) (by omega) hc
     exact ⟨g + 1, by rw [bkF, hm]; dsimp only; rw [hg]; exact h⟩
theorem yM {s : ByteArray} {l : List UInt8} (h : ¬ bytes s = l) : (s.toList == l) = false := by rw [zf, zt]; exact h
theorem zdq (s : ByteArray) (w : World) : Calls Tryz.prog 108 #[.string s] w fun r w' => r = .returned (.tuple #[.int .u8 ((zB (bytes s)).1 : Int), .int .i64 ((zB (bytes s)).2 : Int)]) /\ w' = w := by
 by_cases h0 : bytes s = [124, 124]
 ·have hs : s = ⟨#[124, 124]⟩ := by rw [yv s, h0]
  clear h0
  subst hs
  go_enter Tryz.func108, Tryz.ntmps108
  go_wp2
  go_ret2
  exact ⟨rfl, rfl⟩
 have n0 := yM h0
 by_cases h1 : bytes s = [38, 38]
 ·have hs : s = ⟨#[38, 38]⟩ := by rw [yv s, h1]
  clear n0 h0
  clear h1
  subst hs
  go_enter Tryz.func108, Tryz.ntmps108
  go_wp2
  go_ret2
  exact ⟨rfl, rfl⟩
 have n1 := yM h1
 by_cases h2 : bytes s = [61, 61]
 ·have hs : s = ⟨#[61, 61]⟩ := by rw [yv s, h2]
  clear n0 h0
  clear n1 h1
  clear h2
  subst hs
  go_enter Tryz.func108, Tryz.ntmps108
  go_wp2
  go_ret2
  exact ⟨rfl, rfl⟩
 have n2 := yM h2
 by_cases h3 : bytes s = [33, 61]
 ·have hs : s = ⟨#[33, 61]⟩ := by rw [yv s, h3]
  clear n0 h0
  clear n1 h1
  clear n2 h2
  clear h3
  subst hs
  go_enter Tryz.func108, Tryz.ntmps108
  go_wp2
  go_ret2
  exact ⟨rfl, rfl⟩
 have n3 := yM h3
 by_cases h4 : bytes s = [60]
 ·have hs : s = ⟨#[60]⟩ := by rw [yv s, h4]
  clear n0 h0
  clear n1 h1
  clear n2 h2
  clear n3 h3
  clear h4
  subst hs
  go_enter Tryz.func108, Tryz.ntmps108
  go_wp2
  go_ret2
  exact ⟨rfl, rfl⟩
 have n4 := yM h4
 by_cases h5 : bytes s = [60, 61]
 ·have hs : s = ⟨#[60, 61]⟩ := by rw [yv s, h5]
  clear n0 h0
  clear n1 h1
  clear n2 h2
  clear n3 h3
  clear n4 h4
  clear h5
  subst hs
  go_enter Tryz.func108, Tryz.ntmps108
  go_wp2
  go_ret2
  exact ⟨rfl, rfl⟩
 have n5 := yM h5
 by_cases h6 : bytes s = [62]
 ·have hs : s = ⟨#[62]⟩ := by rw [yv s, h6]
  clear n0 h0
  clear n1 h1
  clear n2 h2
  clear n3 h3
  clear n4 h4
  clear n5 h5
  clear h6
  subst hs
  go_enter Tryz.func108, Tryz.ntmps108
  go_wp2
  go_ret2
  exact ⟨rfl, rfl⟩
 have n6 := yM h6
 by_cases h7 : bytes s = [62, 61]
 ·have hs : s = ⟨#[62, 61]⟩ := by rw [yv s, h7]
  clear n0 h0
  clear n1 h1
  clear n2 h2
  clear n3 h3
  clear n4 h4
  clear n5 h5
  clear n6 h6
  clear h7
  subst hs
  go_enter Tryz.func108, Tryz.ntmps108
  go_wp2
  go_ret2
  exact ⟨rfl, rfl⟩
 have n7 := yM h7
 by_cases h8 : bytes s = [43]
 ·have hs : s = ⟨#[43]⟩ := by rw [yv s, h8]
  clear n0 h0
  clear n1 h1
  clear n2 h2
  clear n3 h3
  clear n4 h4
  clear n5 h5
  clear n6 h6
  clear n7 h7
  clear h8
  subst hs
  go_enter Tryz.func108, Tryz.ntmps108
  go_wp2
  go_ret2
  exact ⟨rfl, rfl⟩
 have n8 := yM h8
 by_cases h9 : bytes s = [45]
 ·have hs : s = ⟨#[45]⟩ := by rw [yv s, h9]
  clear n0 h0
  clear n1 h1
  clear n2 h2
  clear n3 h3
  clear n4 h4
  clear n5 h5
  clear n6 h6
  clear n7 h7
  clear n8 h8
  clear h9
  subst hs
  go_enter Tryz.func108, Tryz.ntmps108
  go_wp2
  go_ret2
  exact ⟨rfl, rfl⟩
 have n9 := yM h9
 by_cases h10 : bytes s = [42]
 ·have hs : s = ⟨#[42]⟩ := by rw [yv s, h10]
  clear n0 h0
  clear n1 h1
  clear n2 h2
  clear n3 h3
  clear n4 h4
  clear n5 h5
  clear n6 h6
  clear n7 h7
  clear n8 h8
  clear n9 h9
  clear h10
  subst hs
  go_enter Tryz.func108, Tryz.ntmps108
  go_wp2
  go_ret2
  exact ⟨rfl, rfl⟩
 have n10 := yM h10
 by_cases h11 : bytes s = [47]
 ·have hs : s = ⟨#[47]⟩ := by rw [yv s, h11]
  clear n0 h0
  clear n1 h1
  clear n2 h2
  clear n3 h3
  clear n4 h4
  clear n5 h5
  clear n6 h6
  clear n7 h7
  clear n8 h8
  clear n9 h9
  clear n10 h10
  clear h11
  subst hs
  go_enter Tryz.func108, Tryz.ntmps108
  go_wp2
  go_ret2
  exact ⟨rfl, rfl⟩
 have n11 := yM h11
 by_cases h12 : bytes s = [37]
 ·have hs : s = ⟨#[37]⟩ := by rw [yv s, h12]
  clear n0 h0
  clear n1 h1
  clear n2 h2
  clear n3 h3
  clear n4 h4
  clear n5 h5
  clear n6 h6
  clear n7 h7
  clear n8 h8
  clear n9 h9
  clear n10 h10
  clear n11 h11
  clear h12
  subst hs
  go_enter Tryz.func108, Tryz.ntmps108
  go_wp2
  go_ret2
  exact ⟨rfl, rfl⟩
 have n12 := yM h12
 have e : zB (bytes s) = (0, 0) := by unfold zB; rw [ze h0, ze h1, ze h2, ze h3, ze h4, ze h5, ze h6, ze h7, ze h8, ze h9, ze h10, ze h11, ze h12]
 rw [e]
 clear h0 h1 h2 h3 h4 h5 h6 h7 h8 h9 h10 h11 h12 e
 go_enter Tryz.func108, Tryz.ntmps108
 go_wp2
 go_ret2
 exact ⟨rfl, rfl⟩
theorem zcX (s : ByteArray) (w : World) : Calls Tryz.prog 139 #[.string s] w fun r w' => r = .returned (.int .u8 (zL (bytes s) : Int)) /\ w' = w := by
 by_cases h0 : bytes s = [45]
 ·have hs : s = ⟨#[45]⟩ := by rw [yv s, h0]
  clear h0
  subst hs
  go_enter Tryz.func139, Tryz.ntmps139
  go_wp2
  go_ret
  exact ⟨rfl, rfl⟩
 have n0 := yM h0
 by_cases h1 : bytes s = [33]
 ·have hs : s = ⟨#[33]⟩ := by rw [yv s, h1]
  clear n0 h0
  clear h1
  subst hs
  go_enter Tryz.func139, Tryz.ntmps139
  go_wp2
  go_ret
  exact ⟨rfl, rfl⟩
 have n1 := yM h1
 by_cases h2 : bytes s = [105, 110, 116]
 ·have hs : s = ⟨#[105, 110, 116]⟩ := by rw [yv s, h2]
  clear n0 h0
  clear n1 h1
  clear h2
  subst hs
  go_enter Tryz.func139, Tryz.ntmps139
  go_wp2
  go_ret
  exact ⟨rfl, rfl⟩
 have n2 := yM h2
 by_cases h3 : bytes s = [114, 101, 97, 108]
 ·have hs : s = ⟨#[114, 101, 97, 108]⟩ := by rw [yv s, h3]
  clear n0 h0
  clear n1 h1
  clear n2 h2
  clear h3
  subst hs
  go_enter Tryz.func139, Tryz.ntmps139
  go_wp2
  go_ret
  exact ⟨rfl, rfl⟩
 have n3 := yM h3
 have e : zL (bytes s) = 0 := by unfold zL; rw [ze h0, ze h1, ze h2, ze h3]
 rw [e]
 clear h0 h1 h2 h3 e
 go_enter Tryz.func139, Tryz.ntmps139
 go_wp2
 go_ret
 exact ⟨rfl, rfl⟩
inductive ST where
 | mk (k : Int) (nm : ByteArray) (e : ET) (a1 : Option Addr) (c1 : Nat) (body : List ST) (a2 : Option Addr) (c2 : Nat) (els : List ST)
def st9 (k : Int) (nm : ByteArray) (e : List Value) (s1 s2 : Value) : List Value := .int .i64 k :: .string nm :: (e ++ [s1, s2])
def ST.cells : ST -> List Value
 | .mk k nm e a1 c1 body a2 c2 els => st9 k nm e.cells (.slice a1 body.length c1) (.slice a2 els.length c2)
mutual
def ST.st : ST -> St
 | .mk k nm e _ _ body _ _ els => .mk k nm.data.toList e.ex (ST.sts body) (ST.sts els)
def ST.sts : List ST -> List St
 | [] => []
 | s :: r => s.st :: ST.sts r
end
theorem ST.sts_eq : ∀ ks : List ST, ST.sts ks = ks.map ST.st
 | [] => rfl
 | e :: r => by rw [ST.sts, ST.sts_eq r]; rfl
mutual
def ST.In (B : Nat) (w : World) : ST -> Prop
 | .mk k nm e a1 c1 body a2 c2 els => (-9223372036854775808 <= k /\ k <= 9223372036854775807) /\ e.In B w /\
  (body.length <= 1048576 /\ body.length <= c1 /\ (body = [] \/ ∃ g o, a1 = some ⟨g, o, none⟩ /\ g < B /\ ST.Row B w g body o)) /\
  (els.length <= 1048576 /\ els.length <= c2 /\ (els = [] \/ ∃ g o, a2 = some ⟨g, o, none⟩ /\ g < B /\ ST.Row B w g els o))
def ST.Row (B : Nat) (w : World) (g : Nat) : List ST -> Nat -> Prop
 | [], _ => True
 | s :: r, o => w.rangeAt g o s.cells /\ s.In B w /\ ST.Row B w g r (o + 9)
end
theorem ST.cells_len (s : ST) : s.cells.length = 9 := by cases s; simp [ST.cells, st9, ET.cells_len]
mutual
theorem ST.In.old {B : Nat} {w w' : World} (hO : Old B w w') : ∀ {s : ST}, s.In B w -> s.In B w'
 | .mk k nm e a1 c1 body a2 c2 els, h => by
  unfold ST.In at h ⊢
  obtain ⟨h1, h2, ⟨h3, h4, h5⟩, h6, h7, h8⟩ := h
  refine ⟨h1, h2.old hO, ⟨h3, h4, ?_⟩, h6, h7, ?_⟩
  ·rcases h5 with h5 | ⟨g, o, ha, hg, hr⟩
   ·exact .inl h5
   ·exact .inr ⟨g, o, ha, hg, ST.Row.old hO hg hr⟩
  ·rcases h8 with h8 | ⟨g, o, ha, hg, hr⟩
   ·exact .inl h8
   ·exact .inr ⟨g, o, ha, hg, ST.Row.old hO hg hr⟩
theorem ST.Row.old {B : Nat} {w w' : World} (hO : Old B w w') {g : Nat} (hg : g < B) : ∀ {ks : List ST} {o : Nat}, ST.Row B w g ks o -> ST.Row B w' g ks o
 | [], o, _ => trivial
 | s :: r, o, h => by
  unfold ST.Row at h ⊢
  exact ⟨hO.range hg h.1, ST.In.old hO h.2.1, ST.Row.old hO hg h.2.2⟩
end
theorem ST.Row.at {B g : Nat} {w : World} : ∀ {ks : List ST} {o : Nat}, ST.Row B w g ks o -> ∀ (i : Nat) (e : ST), ks[i]? = some e -> w.rangeAt g (o + i * 9) e.cells /\ e.In B w
 | [], o, _, i, e, h => by simp at h
 | x :: r, o, hr, 0, e, h => by
  unfold ST.Row at hr
  simp at h
  subst h
  exact ⟨by simpa using hr.1, hr.2.1⟩
 | x :: r, o, hr, i + 1, e, h => by
  unfold ST.Row at hr
  have := ST.Row.at hr.2.2 i e (by simpa using h)
  rw [show o + (i + 1) * 9 = o + 9 + i * 9 by omega]
  exact this
def RowS (B : Nat) (w : World) (a : Option Addr) (c : Nat) (ks : List ST) : Prop := ks.length <= 1048576 /\ ks.length <= c /\ (ks = [] \/ ∃ g o, a = some ⟨g, o, none⟩ /\ g < B /\ ST.Row B w g ks o)
theorem RowS.old {B c : Nat} {w w' : World} {a : Option Addr} {ks : List ST} (h : RowS B w a c ks) (hO : Old B w w') : RowS B w' a c ks := by
 obtain ⟨h1, h2, h | ⟨g, o, ha, hg, hr⟩⟩ := h
 ·exact ⟨h1, h2, .inl h⟩
 ·exact ⟨h1, h2, .inr ⟨g, o, ha, hg, ST.Row.old hO hg hr⟩⟩
theorem RowS.at {B c : Nat} {w : World} {a : Option Addr} {ks : List ST} (h : RowS B w a c ks) (i : Nat) (k : ST) (hk : ks[i]? = some k) : ∃ g o, a = some ⟨g, o, none⟩ /\ g < B /\ w.rangeAt g (o + i * 9) k.cells /\ k.In B w := by
 obtain ⟨_, _, h | ⟨g, o, ha, hg, hr⟩⟩ := h
 ·rw [h] at hk; simp at hk
 ·obtain ⟨h1, h2⟩ := hr.at i k hk
  exact ⟨g, o, ha, hg, h1, h2⟩
theorem ST.one (s : ST) : ∀ v ∈ s.cells, v.oneCell' = true := by
 cases s with
 | mk k nm e a1 c1 body a2 c2 els =>
  intro v hv
  simp only [ST.cells, st9, Kp, List.mem_append, List.not_mem_nil, or_false] at hv
  rcases hv with rfl | rfl | hv | rfl | rfl
  ·rfl
  ·rfl
  ·exact e.one v hv
  ·rfl
  ·rfl
theorem i38 : (Tryz.prog.info? 51).map (·.size) = some 9 := by kernel_rfl
mutual
def ST.Lies (S : Nat -> Prop) : ST -> Prop
 | .mk _ _ e a1 _ b1 a2 _ b2 => e.Lies S /\ ((b1 = [] \/ ∃ g o, a1 = some ⟨g, o, none⟩ /\ S g) /\ ST.LiesL S b1) /\ (b2 = [] \/ ∃ g o, a2 = some ⟨g, o, none⟩ /\ S g) /\ ST.LiesL S b2
def ST.LiesL (S : Nat -> Prop) : List ST -> Prop
 | [] => True
 | e :: r => e.Lies S /\ ST.LiesL S r
end
theorem yU {S S' : Nat -> Prop} (hS : ∀ k, S k -> S' k) {α : Type} {l : List α} {a : Option Addr} (k : l = [] \/ ∃ g o, a = some ⟨g, o, none⟩ /\ S g) : l = [] \/ ∃ g o, a = some ⟨g, o, none⟩ /\ S' g := by
 rcases k with k | ⟨g, o, k1, k2⟩
 ·exact .inl k
 ·exact .inr ⟨g, o, k1, hS g k2⟩
mutual
theorem ST.Lies.mono {S S' : Nat -> Prop} (hS : ∀ k, S k -> S' k) : ∀ {e : ST}, e.Lies S -> e.Lies S'
 | .mk _ _ e a1 _ b1 a2 _ b2, h => by
  unfold ST.Lies at h ⊢
  exact ⟨h.1.mono hS, ⟨yU hS h.2.1.1, ST.LiesL.mono hS h.2.1.2⟩, yU hS h.2.2.1, ST.LiesL.mono hS h.2.2.2⟩
theorem ST.LiesL.mono {S S' : Nat -> Prop} (hS : ∀ k, S k -> S' k) : ∀ {l : List ST}, ST.LiesL S l -> ST.LiesL S' l
 | [], _ => trivial
 | e :: r, h => by
  unfold ST.LiesL at h ⊢
  exact ⟨ST.Lies.mono hS h.1, ST.LiesL.mono hS h.2⟩
end
mutual
theorem ST.In.stay {B : Nat} {S : Nat -> Prop} {w w' : World} (hM : ∀ k, S k -> k < B -> w'.heap[k]? = w.heap[k]?) : ∀ {e : ST}, e.In B w -> e.Lies S -> e.In B w'
 | .mk k nm e a1 c1 b1 a2 c2 b2, h, u => by
  unfold ST.In at h ⊢
  unfold ST.Lies at u
  obtain ⟨h1, h2, ⟨h3, h4, h5⟩, h6, h7, h8⟩ := h
  refine ⟨h1, h2.stay hM u.1, ⟨h3, h4, ?_⟩, h6, h7, ?_⟩
  ·rcases h5 with h5 | ⟨g, o, ha, hg, hr⟩
   ·exact .inl h5
   ·rcases u.2.1.1 with hk | ⟨g', o', ha', hg'⟩
    ·exact .inl hk
    ·rw [ha] at ha'
     cases ha'
     exact .inr ⟨g, o, ha, hg, ST.Row.stay hM hg' hg hr u.2.1.2⟩
  ·rcases h8 with h8 | ⟨g, o, ha, hg, hr⟩
   ·exact .inl h8
   ·rcases u.2.2.1 with hk | ⟨g', o', ha', hg'⟩
    ·exact .inl hk
    ·rw [ha] at ha'
     cases ha'
     exact .inr ⟨g, o, ha, hg, ST.Row.stay hM hg' hg hr u.2.2.2⟩
theorem ST.Row.stay {B : Nat} {S : Nat -> Prop} {w w' : World} (hM : ∀ k, S k -> k < B -> w'.heap[k]? = w.heap[k]?) {g : Nat} (hA : S g) (hg : g < B) : ∀ {ks : List ST} {o : Nat}, ST.Row B w g ks o -> ST.LiesL S ks -> ST.Row B w' g ks o
 | [], o, _, _ => trivial
 | e :: r, o, h, u => by
  unfold ST.Row at h ⊢
  unfold ST.LiesL at u
  refine ⟨fun j v hj => ?_, ST.In.stay hM h.2.1 u.1, ST.Row.stay hM hA hg h.2.2 u.2⟩
  rw [World.cell?_of_block (w := w) (w' := w') (hM g hA hg)]
  exact h.1 j v hj
end
mutual
theorem ST.In.lies {B : Nat} {S : Nat -> Prop} {w : World} : ∀ {e : ST}, e.In B w -> e.Lies S -> e.Lies (fun k => S k /\ k < B)
 | .mk k nm e a1 c1 b1 a2 c2 b2, h, u => by
  unfold ST.In at h
  unfold ST.Lies at u ⊢
  obtain ⟨h1, h2, ⟨h3, h4, h5⟩, h6, h7, h8⟩ := h
  refine ⟨h2.lies u.1, ?_, ?_⟩
  ·rcases h5 with h5 | ⟨g, o, ha, hg, hr⟩
   ·subst h5
    exact ⟨.inl rfl, trivial⟩
   ·rcases u.2.1.1 with hk | ⟨g', o', ha', hg'⟩
    ·subst hk
     exact ⟨.inl rfl, trivial⟩
    ·rw [ha] at ha'
     cases ha'
     exact ⟨.inr ⟨g, o, ha, hg', hg⟩, ST.Row.lies hr u.2.1.2⟩
  ·rcases h8 with h8 | ⟨g, o, ha, hg, hr⟩
   ·subst h8
    exact ⟨.inl rfl, trivial⟩
   ·rcases u.2.2.1 with hk | ⟨g', o', ha', hg'⟩
    ·subst hk
     exact ⟨.inl rfl, trivial⟩
    ·rw [ha] at ha'
     cases ha'
     exact ⟨.inr ⟨g, o, ha, hg', hg⟩, ST.Row.lies hr u.2.2.2⟩
theorem ST.Row.lies {B : Nat} {S : Nat -> Prop} {w : World} {g : Nat} : ∀ {ks : List ST} {o : Nat}, ST.Row B w g ks o -> ST.LiesL S ks -> ST.LiesL (fun k => S k /\ k < B) ks
 | [], o, _, _ => trivial
 | e :: r, o, h, u => by
  unfold ST.Row at h
  unfold ST.LiesL at u ⊢
  exact ⟨ST.In.lies h.2.1 u.1, ST.Row.lies h.2.2 u.2⟩
end
theorem ST.LiesL.of {S : Nat -> Prop} : ∀ {l : List ST}, (∀ e ∈ l, e.Lies S) -> ST.LiesL S l
 | [], _ => trivial
 | e :: r, h => by unfold ST.LiesL; exact ⟨h e List.mem_cons_self, ST.LiesL.of fun x hx => h x (List.mem_cons_of_mem _ hx)⟩
def zcf (ys : List ST) : List Value := ys.flatMap ST.cells
theorem ST.cells9 (e : ST) : e.cells.length = 9 := by
 obtain ⟨k, nm, ⟨op, t, b, enm, ea, ec, eks⟩, a1, c1, b1, a2, c2, b2⟩ := e
 rfl
theorem VP {B g : Nat} {w : World} : ∀ (ys : List ST) (o : Nat), w.rangeAt g o (zcf ys) -> (∀ y ∈ ys, y.In B w) -> ST.Row B w g ys o
 | [], o, _, _ => trivial
 | e :: r, o, h, u => by
  unfold ST.Row
  have e1 : zcf (e :: r) = e.cells ++ zcf r := by unfold zcf; rw [List.flatMap_cons]
  rw [e1] at h
  refine ⟨fun j v hj => h j v ?_, u e List.mem_cons_self, VP r (o + 9) (fun j v hj => ?_) fun x hx => u x (List.mem_cons_of_mem _ hx)⟩
  ·have hl : j < e.cells.length := by
    rcases Nat.lt_or_ge j e.cells.length with q | q
    ·exact q
    ·rw [List.getElem?_eq_none q] at hj; cases hj
   rw [KA hl]
   exact hj
  ·have := h (9 + j) v (by rw [Kz (by rw [e.cells9]; omega), e.cells9, XP]; exact hj)
   rw [Nat.add_assoc]
   exact this
structure VT where
 nm : ByteArray
 t : Nat
 b : Nat
def VT.cells (v : VT) : List Value := [.string v.nm, .int .u8 (v.t : Int), .int .u64 (v.b : Int)]
def VT.vr (v : VT) : Vr := ⟨v.nm.data.toList, v.t, v.b⟩
def VT.In (_B : Nat) (_w : World) (v : VT) : Prop := v.t < 256 /\ v.b < 18446744073709551616
def RowV (B : Nat) (w : World) (a : Option Addr) (c : Nat) (ks : List VT) : Prop := ks.length <= 1048576 /\ ks.length <= c /\ (ks = [] \/ ∃ g o, a = some ⟨g, o, none⟩ /\ g < B /\ ∀ i v, ks[i]? = some v -> w.rangeAt g (o + i * 3) v.cells /\ v.In B w)
def RowN (B : Nat) (w : World) (a : Option Addr) (c : Nat) (ks : List ByteArray) : Prop := ks.length <= 1048576 /\ ks.length <= c /\ (ks = [] \/ ∃ g o, a = some ⟨g, o, none⟩ /\ g < B /\ ∀ i v, ks[i]? = some v -> w.cell? ⟨g, o + i, none⟩ = some (.string v))
theorem VT.In.old {B : Nat} {w w' : World} (hO : Old B w w') {v : VT} (h : v.In B w) : v.In B w' := h
structure TT where
 nm : ByteArray
 a1 : Option Addr
 c1 : Nat
 locals : List VT
 a2 : Option Addr
 c2 : Nat
 body : List ST
def TT.cells (v : TT) : List Value := [.string v.nm, .slice v.a1 v.locals.length v.c1, .slice v.a2 v.body.length v.c2]
def TT.th (v : TT) : Th := ⟨v.nm.data.toList, v.locals.map VT.vr, v.body.map ST.st⟩
def TT.In (B : Nat) (w : World) (v : TT) : Prop := RowV B w v.a1 v.c1 v.locals /\ RowS B w v.a2 v.c2 v.body
def RowT (B : Nat) (w : World) (a : Option Addr) (c : Nat) (ks : List TT) : Prop := ks.length <= 1048576 /\ ks.length <= c /\ (ks = [] \/ ∃ g o, a = some ⟨g, o, none⟩ /\ g < B /\ ∀ i v, ks[i]? = some v -> w.rangeAt g (o + i * 3) v.cells /\ v.In B w)
theorem RowV.old {B c : Nat} {w w' : World} {a : Option Addr} {ks : List VT} (h : RowV B w a c ks) (hO : Old B w w') : RowV B w' a c ks := by
 obtain ⟨h1, h2, h | ⟨g, o, ha, hg, hr⟩⟩ := h
 ·exact ⟨h1, h2, .inl h⟩
 ·exact ⟨h1, h2, .inr ⟨g, o, ha, hg, fun i v hv => ⟨hO.range hg (hr i v hv).1, (hr i v hv).2⟩⟩⟩
theorem RowN.old {B c : Nat} {w w' : World} {a : Option Addr} {ks : List ByteArray} (h : RowN B w a c ks) (hO : Old B w w') : RowN B w' a c ks := by
 obtain ⟨h1, h2, h | ⟨g, o, ha, hg, hr⟩⟩ := h
 ·exact ⟨h1, h2, .inl h⟩
 ·exact ⟨h1, h2, .inr ⟨g, o, ha, hg, fun i v hv => by rw [World.cell?_of_block (w := w) (w' := w') (hO _ hg)]; exact hr i v hv⟩⟩
theorem TT.In.old {B : Nat} {w w' : World} (hO : Old B w w') {v : TT} (h : v.In B w) : v.In B w' := ⟨h.1.old hO, h.2.old hO⟩
theorem RowT.old {B c : Nat} {w w' : World} {a : Option Addr} {ks : List TT} (h : RowT B w a c ks) (hO : Old B w w') : RowT B w' a c ks := by
 obtain ⟨h1, h2, h | ⟨g, o, ha, hg, hr⟩⟩ := h
 ·exact ⟨h1, h2, .inl h⟩
 ·exact ⟨h1, h2, .inr ⟨g, o, ha, hg, fun i v hv => ⟨hO.range hg (hr i v hv).1, (hr i v hv).2.old hO⟩⟩⟩
theorem RowV.at {B c : Nat} {w : World} {a : Option Addr} {ks : List VT} (h : RowV B w a c ks) (i : Nat) (k : VT) (hk : ks[i]? = some k) : ∃ g o, a = some ⟨g, o, none⟩ /\ g < B /\ w.rangeAt g (o + i * 3) k.cells /\ k.In B w := by
 obtain ⟨_, _, h | ⟨g, o, ha, hg, hr⟩⟩ := h
 ·rw [h] at hk; simp at hk
 ·exact ⟨g, o, ha, hg, (hr i k hk).1, (hr i k hk).2⟩
theorem RowT.at {B c : Nat} {w : World} {a : Option Addr} {ks : List TT} (h : RowT B w a c ks) (i : Nat) (k : TT) (hk : ks[i]? = some k) : ∃ g o, a = some ⟨g, o, none⟩ /\ g < B /\ w.rangeAt g (o + i * 3) k.cells /\ k.In B w := by
 obtain ⟨_, _, h | ⟨g, o, ha, hg, hr⟩⟩ := h
 ·rw [h] at hk; simp at hk
 ·exact ⟨g, o, ha, hg, (hr i k hk).1, (hr i k hk).2⟩
theorem RowN.at {B c : Nat} {w : World} {a : Option Addr} {ks : List ByteArray} (h : RowN B w a c ks) (i : Nat) (k : ByteArray) (hk : ks[i]? = some k) : ∃ g o, a = some ⟨g, o, none⟩ /\ g < B /\ w.cell? ⟨g, o + i, none⟩ = some (.string k) := by
 obtain ⟨_, _, h | ⟨g, o, ha, hg, hr⟩⟩ := h
 ·rw [h] at hk; simp at hk
 ·exact ⟨g, o, ha, hg, hr i k hk⟩
theorem VT.one (v : VT) : ∀ x ∈ v.cells, x.oneCell' = true := by
 intro x hx
 simp [VT.cells] at hx
 rcases hx with rfl | rfl | rfl <;> rfl
theorem TT.one (v : TT) : ∀ x ∈ v.cells, x.oneCell' = true := by
 intro x hx
 simp [TT.cells] at hx
 rcases hx with rfl | rfl | rfl <;> rfl
theorem i79 : (Tryz.prog.info? 48).map (·.size) = some 3 := by kernel_rfl
theorem z79 : (Tryz.prog.info? 48).map (fun i => (i.zero, i.size)) = some (some (.agg [.string ⟨#[]⟩, .int .u8 0, .int .u64 0].toArray), 3) := by kernel_rfl
theorem i42 : (Tryz.prog.info? 53).map (·.size) = some 3 := by kernel_rfl
theorem z42 : (Tryz.prog.info? 53).map (fun i => (i.zero, i.size)) = some (some (.agg [.string ⟨#[]⟩, .slice none 0 0, .slice none 0 0].toArray), 3) := by kernel_rfl
structure PT where
 a1 : Option Addr
 c1 : Nat
 shared : List VT
 a2 : Option Addr
 c2 : Nat
 mutexes : List ByteArray
 a3 : Option Addr
 c3 : Nat
 threads : List TT
def PT.cells (p : PT) : List Value := [.slice p.a1 p.shared.length p.c1, .slice p.a2 p.mutexes.length p.c2, .slice p.a3 p.threads.length p.c3]
def PT.pg (p : PT) : Pg := ⟨p.shared.map VT.vr, p.mutexes.map (fun m => m.data.toList), p.threads.map TT.th⟩
def PT.In (B : Nat) (w : World) (p : PT) : Prop := RowV B w p.a1 p.c1 p.shared /\ RowN B w p.a2 p.c2 p.mutexes /\ RowT B w p.a3 p.c3 p.threads
