/- J -/
import Derived.Test.YtjgggmjjikopeaaGreatDoorJ29
set_option linter.unusedVariables false
set_option maxRecDepth 100000
set_option maxHeartbeats 6400000
open Go.RowKit
namespace Go.Proofs.YtjgggmjjikopeaaGreatDoor
def Rs.andThen {α β : Type} (S : Rs α) (f : α -> List Tk -> Rs β) : Rs β := match S with
 | .ok v l => f v l
 | .bad e p => .bad e p
def StOf (L : List Tk) (en k er pl : Nat) {α : Type} (S : Rs α) : Prop := match S with
 | .ok _ l => er = 0 /\ pl = 0 /\ za L k en = l
 | .bad e p => er = e /\ pl = p /\ k = L.length /\ e ≠ 0
theorem Yb {B : Nat} (g : Nat) (L : List Tk) (a : Option Addr) (c k en er pl ne bl : Nat) (S : Rs Unit) (hS : StOf L en k er pl S) (x : ByteArray) (hx : bytes x ≠ []) (w : World) (h : Qd B w g L a c k en er pl ne bl) :
  Calls Tryz.prog 67 #[.pointer (some ⟨g, 0, none⟩), .string x] w fun r w' => r = .returned (.tuple #[]) /\ ∃ k' er' pl', Qd B w' g L a c k' en er' pl' ne bl /\ StOf L en k' er' pl' (S.andThen fun _ l => zq (bytes x) l) /\ But g w w' := by
 cases S with
 | bad e p =>
  obtain ⟨rfl, rfl, rfl, he⟩ := hS
  refine (Zo g L a c _ en er pl ne bl he x hx w h).mono ?_
  rintro r w' ⟨rfl, h1, h2⟩
  exact ⟨rfl, _, _, _, h1, ⟨rfl, rfl, rfl, he⟩, h2⟩
 | ok u l =>
  obtain ⟨rfl, rfl, rfl⟩ := hS
  refine (Xq g L a c k en ne bl x hx w h).mono ?_
  rintro r w' ⟨rfl, h1, h2⟩
  show _ /\ ∃ k' er' pl', Qd B w' g L a c k' en er' pl' ne bl /\ StOf L en k' er' pl' (zq (bytes x) (za L k en)) /\ But g w w'
  have hne : ∀ e p, zq (bytes x) (za L k en) = .bad e p -> e ≠ 0 := by
   intro e p hm
   unfold zq at hm
   split at hm
   ·cases hm
   ·cases hm; decide
  cases hm : zq (bytes x) (za L k en) with
  | ok v l =>
   rw [hm] at h1
   obtain ⟨k', h3, h4⟩ := h1
   exact ⟨rfl, k', 0, 0, h4, ⟨rfl, rfl, h3.symm⟩, h2⟩
  | bad e p =>
   rw [hm] at h1
   exact ⟨rfl, _, _, _, h1, ⟨rfl, rfl, rfl, hne e p hm⟩, h2⟩
theorem Vv {B : Nat} (g : Nat) (L : List Tk) (a : Option Addr) (c k en ne bl : Nat) (p : Nat) (hne : ne <= 1048576) (w : World) (h : Qd B w g L a c k en 0 0 ne bl) :
  Calls Tryz.prog 169 #[.pointer (some ⟨g, 0, none⟩), .int .i64 (p : Int)] w fun r w' => r = .returned (.tuple #[]) /\ ∃ k' er' pl', Qd B w' g L a c k' en er' pl' (ne + 1) bl /\ StOf L en k' er' pl' (if 32 <= ne then .bad 160 p else .ok () (za L k en) : Rs Unit) /\ But g w w' := by
 refine (Vw g L a c k en ne bl p hne w h).mono ?_
 rintro r w' ⟨rfl, h1, h2⟩
 by_cases hc : 32 <= ne
 ·rw [zi hc] at h1 ⊢
  exact ⟨rfl, _, _, _, h1, ⟨rfl, rfl, rfl, by decide⟩, h2⟩
 ·rw [ze hc] at h1 ⊢
  exact ⟨rfl, _, _, _, h1, ⟨rfl, rfl, rfl⟩, h2⟩
theorem XQ {B A : Nat} (g : Nat) (L : List Tk) (a : Option Addr) (c k en er pl ne bl : Nat) (S : Rs Unit) (hS : StOf L en k er pl S) (y : ET) (p : Nat) (w : World) (h : Qd B w g L a c k en er pl ne bl) (hB : B <= w.heap.size) (hT : Tw A w y) (hgA : g < A) (hh : ∀ l, S = .ok () l -> htX y.ex <= 1048576) :
  Calls Tryz.prog 145 #[.pointer (some ⟨g, 0, none⟩), .agg y.cells.toArray, .int .i64 (p : Int)] w fun r w' => r = .returned (.agg y.cells.toArray) /\ Tw A w' y /\ ∃ k' er' pl', Qd B w' g L a c k' en er' pl' ne bl /\ StOf L en k' er' pl' (S.andThen fun _ l => (if 32 < htX y.ex then .bad 160 p else .ok () l : Rs Unit)) /\ But g w w' := by
 cases S with
 | bad e q =>
  obtain ⟨rfl, rfl, rfl, he⟩ := hS
  refine (zef g L a c _ en er pl ne bl he y p w h hB hT).mono ?_
  rintro r w' ⟨rfl, h0, h1, h2⟩
  exact ⟨rfl, h0, _, _, _, h1, ⟨rfl, rfl, rfl, he⟩, h2⟩
 | ok u l =>
  obtain ⟨rfl, rfl, rfl⟩ := hS
  refine (zfw g L a c k en ne bl y p w h hB hT hgA (hh _ rfl)).mono ?_
  rintro r w' ⟨rfl, h0, h1, h2⟩
  show _ /\ _ /\ ∃ k' er' pl', Qd B w' g L a c k' en er' pl' ne bl /\ StOf L en k' er' pl' (if 32 < htX y.ex then .bad 160 p else .ok () (za L k en) : Rs Unit) /\ But g w w'
  by_cases hc : 32 < htX y.ex
  ·rw [zi hc] at h1 ⊢
   exact ⟨rfl, h0, _, _, _, h1, ⟨rfl, rfl, rfl, by decide⟩, h2⟩
  ·rw [ze hc] at h1 ⊢
   exact ⟨rfl, h0, _, _, _, h1, ⟨rfl, rfl, rfl⟩, h2⟩
def Y5 (B g : Nat) (L : List Tk) (a : Option Addr) (c en ne bl : Nat) (w : World) (R : Rs Ex) (r : Ending) (w' : World) : Prop :=
 ∃ (y : ET) (k er pl ne' : Nat), r = .returned (.agg y.cells.toArray) /\ Tw w.heap.size w' y /\ But g w w' /\ Qd B w' g L a c k en er pl ne' bl /\ StOf L en k er pl R /\ ne <= ne' /\ ne' <= 33 /\ ∀ e l, R = .ok e l -> y.ex = e /\ ne' = ne
def RuW (f : Nat) : Prop := ∀ (n : Nat) (R : Rs Ex) (B g : Nat) (L : List Tk) (a : Option Addr) (c k en d bl : Nat) (w : World), n <= 5 -> d <= 32 -> (∀ t ∈ L, Zd t) -> yJ f n d (za L k en) = some R -> Qd B w g L a c k en 0 0 d bl -> B <= w.heap.size ->
 Calls Tryz.prog 110 #[.pointer (some ⟨g, 0, none⟩), .int .i64 (n : Int)] w fun r w' => Y5 B g L a c en d bl w R r w'
def UnW (f : Nat) : Prop := ∀ (R : Rs Ex) (B g : Nat) (L : List Tk) (a : Option Addr) (c k en d bl : Nat) (w : World), d <= 32 -> (∀ t ∈ L, Zd t) -> unF f d (za L k en) = some R -> Qd B w g L a c k en 0 0 d bl -> B <= w.heap.size ->
 Calls Tryz.prog 143 #[.pointer (some ⟨g, 0, none⟩)] w fun r w' => Y5 B g L a c en d bl w R r w'
theorem Kf (f : Nat) (hR : RuW f) (R : Rs Ex) (B g : Nat) (L : List Tk) (a : Option Addr) (c k en d bl : Nat) (w : World) (hd : d <= 32) (hok : ∀ t ∈ L, Zd t) (h : yJ f 0 d (za L k en) = some R) (hQ : Qd B w g L a c k en 0 0 d bl) (hB : B <= w.heap.size) :
  Calls Tryz.prog 72 #[.pointer (some ⟨g, 0, none⟩)] w fun r w' => Y5 B g L a c en d bl w R r w' := by
 have hlt := hQ.lt
 have HO : Hid (∀ u, Below w.heap.size w u -> Calls Tryz.prog 30 #[.pointer (some ⟨g, 0, none⟩)] u fun r w' => r = .returned (.bool true) /\ w' = u) := fun u hu => zJ g L.length a c k en 0 0 d bl u (hQ.below hu).cell
 have HR : Hid (∀ u, Below w.heap.size w u -> Calls Tryz.prog 110 #[.pointer (some ⟨g, 0, none⟩), .int .i64 0] u fun r w' => Y5 B g L a c en d bl u R r w') := fun u hu => hR 0 R B g L a c k en d bl u (by omega) hd hok h (hQ.below hu) (zQ hB hu.size)
 clear h hQ
 go_enter Tryz.func72, Tryz.ntmps72
 go_wp2_with (first
  | (refine aL (o := { dst := some 2, .. }) rfl rfl z29 ?_; intro w1 hA1 hb1)
  | (go_at_call 30; refine (HO.out _ hb1).mono ?_; rintro r u ⟨rfl, hu⟩; obtain rfl := hu.symm)
  | (go_at_call 110; refine (HR.out _ hb1).mono ?_; rintro _ w2 ⟨y, k', er', pl', ne', rfl, hT, hb2, hQ2, hS2, hn1, hn2, hy⟩; have hA12 := hb2.at hA1 (by omega))
  | (refine sL rfl rfl hA12 y.cells rfl rfl (i43 _) (yP _) (ET.one _) ?_; intro w9 hA9 hb9))
 refine zr (zh rfl _ _ w.heap.size 43 y.cells _ rfl hA9 zR rfl (i43 _)) rfl ?_
 have l1 := hA1.lt
 exact ⟨y, k', er', pl', ne', rfl, (hT.but hb9 (.inl l1)).low hb1.size, ((But.of_below hb1).trans hb2).fresh hb9 (zj _), hQ2.but hb9 hB, hS2, hn1, hn2, hy⟩
theorem Jz (B g : Nat) (L : List Tk) (a : Option Addr) (c k en er pl ne bl : Nat) (he : er ≠ 0) (w : World) (hQ : Qd B w g L a c k en er pl ne bl) (hB : B <= w.heap.size) :
  Calls Tryz.prog 72 #[.pointer (some ⟨g, 0, none⟩)] w fun r w' => r = .returned (.agg noX.cells.toArray) /\ Qd B w' g L a c k en er pl ne bl /\ But g w w' := by
 have HO : Hid (∀ u, Below w.heap.size w u -> Calls Tryz.prog 30 #[.pointer (some ⟨g, 0, none⟩)] u fun r w' => r = .returned (.bool false) /\ w' = u) := fun u hu => by
  have := zJ g L.length a c k en er pl ne bl u (hQ.below hu).cell
  rwa [zN he, Bool.false_and] at this
 have HQ : Hid (Qd B w g L a c k en er pl ne bl) := hQ
 clear hQ he
 go_enter Tryz.func72, Tryz.ntmps72
 go_wp2_with (first
  | (refine aL (o := { dst := some 2, .. }) rfl rfl z29 ?_; intro w1 hA1 hb1)
  | (go_at_call 30; refine (HO.out _ hb1).mono ?_; rintro r u ⟨rfl, hu⟩; obtain rfl := hu.symm)
  | (refine zF rfl rfl noX.cells ?_)
  | (refine sL rfl rfl hA1 noX.cells rfl rfl (i43 _) (yP _) (ET.one _) ?_; intro w9 hA9 hb9))
 refine zr (zh rfl _ _ w.heap.size 43 noX.cells _ rfl hA9 zR rfl (i43 _)) rfl ?_
 have hB9 : Below w.heap.size w w9 := hb9.below hb1 (zj _) hb1.size
 exact ⟨rfl, HQ.out.below hB9, But.of_below hB9⟩
theorem XM (f : Nat) (hR : RuW f) (S : Rs Unit) (R : Rs Ex) (B g : Nat) (L : List Tk) (a : Option Addr) (c k en er pl d bl : Nat) (w : World) (hd : d <= 33) (hd2 : ∀ l, S = .ok () l -> d <= 32) (hok : ∀ t ∈ L, Zd t) (hS : StOf L en k er pl S) (h : ∀ l, S = .ok () l -> yJ f 0 d l = some R) (hQ : Qd B w g L a c k en er pl d bl) (hB : B <= w.heap.size) :
  Calls Tryz.prog 72 #[.pointer (some ⟨g, 0, none⟩)] w fun r w' => Y5 B g L a c en d bl w (S.andThen fun _ _ => R) r w' := by
 cases S with
 | ok u l =>
  obtain ⟨rfl, rfl, rfl⟩ := hS
  exact Kf f hR R B g L a c k en d bl w (hd2 _ rfl) hok (h _ rfl) hQ hB
 | bad e p =>
  obtain ⟨rfl, rfl, rfl, he⟩ := hS
  refine (Jz B g L a c _ en er pl d bl he w hQ hB).mono ?_
  rintro r w' ⟨rfl, h1, h2⟩
  exact ⟨noX, _, _, _, _, rfl, Ym _ _, h2, h1, ⟨rfl, rfl, rfl, he⟩, zj _, hd, fun e l h => by cases h⟩
def brS (d p : Nat) (l : List Tk) : Rs Unit := if 32 <= d then .bad 160 p else .ok () l
theorem zaZ {f d : Nat} {l : List Tk} {R : Rs Ex} (h : bkF f d l = some R) :
  ∃ (j : Nat) (Y : Rs Ex), j < f /\ (∀ l2, zq [40] l = .ok () l2 -> yJ j 0 (d + 1) l2 = some Y) /\ R = ((zq [40] l).andThen fun _ _ => Y).andThen fun e r => (zq [41] r).andThen fun _ r2 => .ok e r2 := by
 cases f with
 | zero => simp [bkF] at h
 | succ j =>
  rw [bkF] at h
  cases hm : zq [40] l with
  | bad e p =>
   rw [hm] at h
   cases h
   exact ⟨j, .bad 0 0, Nat.lt_succ_self _, fun l2 hl => (by cases hl), rfl⟩
  | ok u l2 =>
   rw [hm] at h
   dsimp only at h
   cases hr : yJ j 0 (d + 1) l2 with
   | none => rw [hr] at h; cases h
   | some Y =>
    rw [hr] at h
    refine ⟨j, Y, Nat.lt_succ_self _, fun l3 hl => by cases hl; exact hr, ?_⟩
    cases Y with
    | bad e p => cases h; rfl
    | ok e r =>
     dsimp only at h
     show R = (zq [41] r).andThen fun _ r2 => .ok e r2
     cases hm2 : zq [41] r with
     | bad e2 p => rw [hm2] at h; cases h; rfl
     | ok u2 r2 => rw [hm2] at h; cases h; rfl
theorem JY (f : Nat) :
  (∀ n d l e r, yJ f n d l = some (.ok e r) -> htX e <= 32) /\
  (∀ n d x l e r, htX x <= 32 -> lpF f n d x l = some (.ok e r) -> htX e <= 32) /\
  (∀ d l e r, unF f d l = some (.ok e r) -> htX e <= 32) /\
  (∀ d l e r, bkF f d l = some (.ok e r) -> htX e <= 32) := by
 induction f with
 | zero => exact ⟨fun n d l e r h => by simp [yJ] at h, fun n d x l e r _ h => by simp [lpF] at h, fun d l e r h => by simp [unF] at h, fun d l e r h => by simp [bkF] at h⟩
 | succ f ih =>
  obtain ⟨ih1, ih2, ih3, ih4⟩ := ih
  refine ⟨fun n d l e r h => ?_, fun n d x l e r hx h => ?_, fun d l e r h => ?_, fun d l e r h => ?_⟩
  ·rw [yJ] at h
   split at h
   ·exact ih3 _ _ _ _ h
   ·split at h
    ·cases h
    ·cases h
    ·next hc => exact ih2 _ _ _ _ _ _ (ih1 _ _ _ _ _ hc) h
  ·rw [lpF] at h
   split at h
   ·cases h
    exact hx
   ·split at h
    ·cases h
    ·cases h
    ·split at h
     ·cases h
     ·next hn =>
      split at h
      ·cases h
       exact Yv hn
      ·exact ih2 _ _ _ _ _ _ (Yv hn) h
  ·rw [unF] at h
   split at h
   ·exact zaF (yZ h)
   ·split at h
    ·cases h
    ·split at h
     ·split at h
      ·cases h
      ·cases h
      ·exact Yv (yZ h)
     ·split at h
      ·exact ih4 _ _ _ _ h
      ·split at h
       ·cases h
       ·cases h
       ·exact Yv (yZ h)
  ·rw [bkF] at h
   split at h
   ·cases h
   ·split at h
    ·cases h
    ·cases h
    ·next hc =>
     split at h
     ·cases h
     ·cases h
      exact ih1 _ _ _ _ _ hc
theorem RuW.zero : RuW 0 := fun n R B g L a c k en d bl w _ _ _ h => by simp [yJ] at h
theorem andThen_ok {α β : Type} (v : α) (l : List Tk) (f : α -> List Tk -> Rs β) : (Rs.ok v l : Rs α).andThen f = f v l := rfl
theorem jH {f d p op : Nat} {l : List Tk} {R : Rs Ex} (hR : ∀ j, j < f -> RuW j)
  (h : (if 32 <= d then some (.bad 160 p) else match bkF f d l with | none => none | some (.bad e p) => some (.bad e p) | some (.ok y r) => some (yg p op [y] r) : Option (Rs Ex)) = some R) :
  ∃ (j : Nat) (Y : Rs Ex), RuW j /\ (∀ l2, ((brS d p l).andThen fun _ r => zq [40] r) = .ok () l2 -> d < 32 /\ yJ j 0 (d + 1) l2 = some Y) /\ R = (((brS d p l).andThen fun _ r => zq [40] r).andThen fun _ _ => Y).andThen fun e r => (zq [41] r).andThen fun _ r2 => yg p op [e] r2 := by
 by_cases hd : 32 <= d
 ·rw [zi hd] at h
  cases h
  have hb : brS d p l = .bad 160 p := by unfold brS; rw [zi hd]
  rw [hb]
  exact ⟨0, .bad 0 0, RuW.zero, fun l2 q => (by cases q), rfl⟩
 ·rw [ze hd] at h
  have hb : brS d p l = .ok () l := by unfold brS; rw [ze hd]
  rw [hb]
  cases hk : bkF f d l with
  | none => rw [hk] at h; cases h
  | some X =>
   rw [hk] at h
   obtain ⟨j, Y, hj, h1, h2⟩ := zaZ hk
   refine ⟨j, Y, hR j hj, fun l2 q => ⟨by omega, h1 l2 q⟩, ?_⟩
   rw [andThen_ok]
   subst h2
   cases hm : zq [40] l with
   | bad e q => rw [hm] at h; cases h; rfl
   | ok u l2 =>
    rw [hm] at h
    cases Y with
    | bad e q => cases h; rfl
    | ok e r =>
     simp only [andThen_ok] at h ⊢
     cases hm2 : zq [41] r with
     | bad e2 q => rw [hm2] at h; cases h; rfl
     | ok u2 r2 => rw [hm2] at h; cases h; rfl
theorem zeR {f d p : Nat} {l : List Tk} {R : Rs Ex} (hR : ∀ j, j < f -> RuW j) (hl : (hdT l).text = [40])
  (h : (if 32 <= d then some (.bad 160 p) else bkF f d l : Option (Rs Ex)) = some R) :
  ∃ (j : Nat) (Y : Rs Ex), RuW j /\ (∀ l2, brS d p l.tail = .ok () l2 -> d < 32 /\ yJ j 0 (d + 1) l2 = some Y) /\ R = ((brS d p l.tail).andThen fun _ _ => Y).andThen fun e r => (zq [41] r).andThen fun _ r2 => .ok e r2 := by
 by_cases hd : 32 <= d
 ·rw [zi hd] at h
  cases h
  have hb : brS d p l.tail = .bad 160 p := by unfold brS; rw [zi hd]
  rw [hb]
  exact ⟨0, .bad 0 0, RuW.zero, fun l2 q => (by cases q), rfl⟩
 ·rw [ze hd] at h
  have hb : brS d p l.tail = .ok () l.tail := by unfold brS; rw [ze hd]
  rw [hb]
  obtain ⟨j, Y, hj, h1, h2⟩ := zaZ h
  have hm : zq [40] l = .ok () l.tail := by unfold zq; rw [zi hl]
  rw [hm] at h1 h2
  exact ⟨j, Y, hR j hj, fun l2 q => ⟨by omega, h1 l2 q⟩, h2⟩
