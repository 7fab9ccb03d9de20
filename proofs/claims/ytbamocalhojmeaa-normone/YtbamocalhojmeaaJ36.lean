/- norm.leastOrder: its great loop, and the range within it. -/
import Derived.Test.YtbamocalhojmeaaJ22
namespace Go.Proofs.Ytbamocalhojmeaa
open Go.RowKit
set_option linter.unusedVariables false

abbrev hbRel (ev : Nat → Ev) : Nat → Nat → Bool := fun i j => hbB ev j i
theorem nodup_len : ∀ (n : Nat) (L : List Nat), L.Nodup → (∀ x ∈ L, x < n) → L.length ≤ n
  | 0, L, _, h => by
    cases L with
    | nil => simp
    | cons x L => exact absurd (h x (List.mem_cons_self ..)) (by omega)
  | n + 1, L, hn, h => by
    have h1 := nodup_len n (L.erase n) (hn.erase n) (fun x hx => by
      have h2 := h x (List.mem_of_mem_erase hx)
      have h3 := (hn.mem_erase_iff.1 hx).1
      omega)
    rw [List.length_erase] at h1
    split at h1 <;> omega
/-- Between two rounds of the great loop, k events having come. -/
structure Lp (w : World) (es : List Ev) (bM gM gO : Nat) (a : Option Addr) (c : Nat) (W : World) (Ds : List Nat) (k : Nat) (f : Nat → Int) (N : List Nat) (v : Value) : Prop where
  le : k ≤ es.length
  lo : LoS w es bM (bM + 1 + 1) gM (bM + 1) a c W f N v
  ord : At 3 W gO (ordV (leastN (evAt es) es.length k) es.length)
  og : bM + 1 + 1 < gO
  avd : Avd v [gO]
  rdy : Rdy (evAt es) es.length (leastN (evAt es) es.length k) N
  cnt : ∀ j, j < es.length → f j = (lft (hbRel (evAt es)) (leastN (evAt es) es.length k) es.length j : Nat)
  nod : Ds.Nodup
  mks : ∀ D ∈ Ds, bM + 1 + 1 < D ∧ W.heap[D]? = some (.deferred (some []))
/-- Within a round: x has come, t is what was left in the heap, the first of those behind x have come. -/
structure Lq (w : World) (es : List Ev) (bM gM gO s x : Nat) (a : Option Addr) (c : Nat) (Ds : List Nat) (out t : List Nat) (f : Nat → Int) (L : List Nat) (W : World) (N : List Nat) (v : Value) : Prop where
  lo : LoS w es bM (bM + 1 + 1) gM (bM + 1) a c W (runS f L).1 N v
  per : N.Perm (t ++ (runS f L).2)
  ord : At 3 W gO (ordV (out ++ [x]) es.length)
  og : bM + 1 + 1 < gO
  gs : gO < s
  avd : Avd v [gO, s, s + 1, s + 2]
  sz : s + 3 ≤ W.heap.size
  mks : ∀ D ∈ Ds, D < s ∧ W.heap[D]? = some (.deferred (some []))
section
variable {w : World} {es : List Ev} {bM gM gO s x : Nat} {a : Option Addr} {c : Nat} {Ds out t : List Nat} {f : Nat → Int} {L : List Nat} {W W' : World} {N N' : List Nat} {v v' : Value}
theorem own_cells {B : Nat} {zs : List Int} (h : OwnI B W v zs) {k : Nat} (hk : v.ownBlock = some k) : ∃ o : Obj, W.heap[k]? = some o ∧ o.isCells = true := by
  obtain ⟨_, ⟨rfl, _⟩ | ⟨g, cap, cur, rfl, hg, hh, _⟩⟩ := h
  · cases hk
  · cases hk
    exact ⟨_, hh, rfl⟩
theorem keeps_chg {B gH : Nat} {o' : Option Nat} {t : TypeId} {cs : List Value} {b : Nat} {zs : List Int} (h : Chg gH v.ownBlock o' W W') (hA : At t W gH cs) (hO : OwnI b W v zs) : KeepsFrom B W W' := by
  refine ⟨h.size, fun k o _ hk ho => (h.block k (Array.getElem?_eq_some_iff.1 hk).1 (fun e => ?_) (fun e => ?_)).trans hk⟩
  · subst e
    rw [show W.heap[k]? = _ from hA] at hk
    cases hk
    cases ho
  · obtain ⟨o2, h1, h2⟩ := own_cells hO e.symm
    rw [hk] at h1
    cases h1
    rw [ho] at h2
    cases h2
theorem keeps_set (B : Nat) {g j : Nat} {t : TypeId} {cs : List Value} {z : Value} (hA : At t W g cs) : KeepsFrom B W (W.setCell ⟨g, j, none⟩ z) := by
  refine ⟨by simp, fun k o _ hk ho => (Below.heap_setCell _ _ _ k (fun e => ?_)).trans hk⟩
  have e : k = g := e
  subst e
  rw [show W.heap[k]? = _ from hA] at hk
  cases hk
  cases ho
theorem Lq.set (h : Lq w es bM gM gO s x a c Ds out t f L W N v) {j : Nat} (hj : j < es.length) (hne : (runS f L).1 j - 1 ≠ 0) : Lq w es bM gM gO s x a c Ds out t f (L ++ [j]) (W.setCell ⟨gM, j, none⟩ (.int .i64 ((runS f L).1 j - 1))) N v := by
  have o2 := h.lo.o2
  have ho := fun k (hk : k ≠ gM) => Below.heap_setCell W ⟨gM, j, none⟩ (.int .i64 ((runS f L).1 j - 1)) k hk
  have hg := h.og
  refine ⟨?_, ?_, (ho _ (by omega)).trans h.ord, h.og, h.gs, h.avd, by simpa using h.sz, fun D hD => ?_⟩
  · rw [runS_snoc]
    exact h.lo.set _ hj
  · rw [runS_snoc]
    unfold stp
    simp only
    rw [if_neg hne]
    exact h.per
  · obtain ⟨h1, h2⟩ := h.mks D hD
    refine ⟨h1, (ho _ (fun e => ?_)).trans h2⟩
    subst e
    rw [show W.heap[D]? = _ from h.lo.ms] at h2
    cases h2
theorem Lq.kset (h : Lq w es bM gM gO s x a c Ds out t f L W N v) {j : Nat} (z : Value) : Kpt w.heap.size s W (W.setCell ⟨gM, j, none⟩ z) := by
  have o2 := h.lo.o2
  have hg := h.og; have hs := h.gs
  exact ⟨(Below.refl _ _).setCell (p := ⟨gM, j, none⟩) h.lo.o1 _, fun k h1 h2 => Below.heap_setCell _ _ _ k (by show k ≠ gM; omega)⟩
theorem Lq.kchg {W1 W2 : World} {v1 v2 : Value} {N1 : List Nat} {f1 : Nat → Int} (hl : LoS w es bM (bM + 1 + 1) gM (bM + 1) a c W1 f1 N1 v1) (ha : Avd v1 [gO, s, s + 1, s + 2]) (hg : bM + 1 + 1 < gO) (hs : gO < s) (hz : s + 3 ≤ W1.heap.size) (hc : Chg (bM + 1) v1.ownBlock v2.ownBlock W1 W2) : Kpt w.heap.size s W1 W2 := by
  have o1 := hl.o1; have o2 := hl.o2; have o3 := hl.o3
  refine ⟨hc.below (by omega) (fun k e => by have := hl.hp.rdo.own.block k e; omega) hl.lt, fun k h1 h2 => hc.block k (by omega) (by omega) ?_⟩
  refine ha k ?_
  simp
  omega
/-- The push that comes at nought. -/
theorem Lq.push (h : Lq w es bM gM gO s x a c Ds out t f L W N v) {B j : Nat} (hj : j < es.length) (h0 : (runS f L).1 j - 1 = 0) (hN : N.length < 1048576) :
    Calls Try.prog 53 #[.iface 79 (.pointer (some ⟨bM + 1, 0, none⟩)), .iface 3 (.int .i64 (j : Int))] (W.setCell ⟨gM, j, none⟩ (.int .i64 ((runS f L).1 j - 1))) fun r w' => r = .returned (.tuple #[]) ∧ KeepsFrom B W w' ∧ Kpt w.heap.size s W w' ∧ ∃ N v, Lq w es bM gM gO s x a c Ds out t f (L ++ [j]) w' N v := by
  have hS := h.lo.set ((runS f L).1 j - 1) hj
  have ho := fun k (hk : k ≠ gM) => Below.heap_setCell W ⟨gM, j, none⟩ (.int .i64 ((runS f L).1 j - 1)) k hk
  have o2 := h.lo.o2
  have hg := h.og; have hs := h.gs
  have hz : s + 3 ≤ (W.setCell ⟨gM, j, none⟩ (.int .i64 ((runS f L).1 j - 1))).heap.size := by simpa using h.sz
  refine (heapPush_any w es _ _ _ a c N v j hS.hp hS.heap hj hN).mono ?_
  rintro r w' ⟨rfl, N', v', k1, k2, k3, k4⟩
  have hb := h.lo.hp.rdo.own.ne (g := gO)
  refine ⟨rfl, (keeps_set B h.lo.ms).trans (keeps_chg k4 hS.hp.rdo.hd hS.hp.rdo.own), (h.kset _).trans (Lq.kchg hS h.avd hg hs hz k4), N', v', ?_⟩
  have ord1 : At 3 (W.setCell ⟨gM, j, none⟩ (.int .i64 ((runS f L).1 j - 1))) gO (ordV (out ++ [x]) es.length) := (ho _ (by omega)).trans h.ord
  refine ⟨?_, ?_, k4.at ord1 (by omega) (h.avd gO (by simp)), hg, hs, h.avd.chg k4 (fun k hk => ?_), Nat.le_trans hz k4.size, fun D hD => ?_⟩
  · have := hS.chg k3 k2 k4
    rw [runS_snoc]
    exact this
  · rw [runS_snoc]
    unfold stp
    simp only
    rw [if_pos h0, ← List.append_assoc]
    exact k1.trans (h.per.append_right _)
  · simp only [List.mem_cons, List.not_mem_nil, or_false] at hk
    omega
  · obtain ⟨h1, h2⟩ := h.mks D hD
    refine ⟨h1, ?_⟩
    have kf := ((keeps_set 0 h.lo.ms).trans (keeps_chg (B := 0) k4 hS.hp.rdo.hd hS.hp.rdo.own)).same D _ (Nat.zero_le _) h2 rfl
    exact kf
theorem Lq.keep (h : Lq w es bM gM gO s x a c Ds out t f L W N v) {B : Nat} {row : Option Nat} (hB : s + 3 ≤ B) (hg : W.grownBy W' row) (hr : ∀ r, row = some r → B ≤ r ∧ ∃ o : Obj, W.heap[r]? = some o ∧ o.isCells = false) : Lq w es bM gM gO s x a c Ds out t f L W' N v := by
  have hgs := h.gs; have hgO := h.og; have o1 := h.lo.o1; have o2 := h.lo.o2; have o3 := h.lo.o3
  have hc : Cel w.heap.size W W' := Cel.of_grown hg hr (by omega) h.lo.lt
  refine ⟨h.lo.keep hc, h.per, hc.at h.ord, h.og, h.gs, h.avd, Nat.le_trans h.sz hc.bel.size, fun D hD => ?_⟩
  obtain ⟨h1, h2⟩ := h.mks D hD
  exact ⟨h1, (hg.block D (Array.getElem?_eq_some_iff.1 h2).1 (fun e => by have := (hr D e.symm).1; omega)).trans h2⟩
theorem bhTo_nodup (ev : Nat → Ev) (i k : Nat) : (bhTo ev i k).Nodup := List.Pairwise.filter _ List.nodup_range
theorem bhTo_mem {ev : Nat → Ev} {i k j : Nat} : j ∈ bhTo ev i k ↔ j < k ∧ hbB ev j i = true := by simp [bhTo]
theorem Lp.last {k : Nat} (h : Lp w es bM gM gO a c W Ds k f [] v) : k = es.length := by
  have hle := h.le
  by_cases he : k = es.length
  · exact he
  · obtain ⟨b, _, h2, h3⟩ := best_is (ev := evAt es) (n := es.length) (s := k) (by omega)
    have := (h.rdy.mem b).2 ⟨h2, h3⟩
    simp at this
theorem Lp.more {k : Nat} (h : Lp w es bM gM gO a c W Ds k f (x :: t) v) : k < es.length ∧ x < es.length ∧ t.length ≤ es.length := by
  have hle := h.le
  have h1 := (h.rdy.mem x).1 (List.mem_cons_self ..)
  refine ⟨?_, h1.1, ?_⟩
  · by_cases he : k = es.length
    · have h2 := (mayE_iff.1 h1.2).1
      rw [he] at h2
      exact absurd ((lin_least (evAt es) es.length).all h1.1) h2
    · omega
  · have := nodup_len es.length (x :: t) h.rdy.once (fun y hy => ((h.rdy.mem y).1 hy).1)
    simp at this
    omega
theorem LoS.but {bH gH : Nat} (h : LoS w es bM bH gM gH a c W f N v) {g : Nat} (hb : But g W W') (hg : bH < g) (hv : some g ≠ v.ownBlock) : LoS w es bM bH gM gH a c W' f N v := by
  have o1 := h.o1; have o2 := h.o2; have o3 := h.o3; have o4 := h.o4
  refine ⟨(hb.block _ h.mv.lt (by omega)).trans h.mv, (hb.block _ h.hv.lt (by omega)).trans h.hv, hb.at h.ms (by omega), ⟨⟨hb.at h.hp.rdo.hd (by omega), h.hp.rdo.lt, ?_⟩, hb.below h.hp.bel (by omega) h.lt, h.hp.row, h.hp.le, h.hp.mem, Nat.le_trans h.hp.szB hb.size, h.hp.few⟩, h.heap, o1, o2, o3, o4⟩
  exact World.ownsRow.kept (row := some g) h.hp.rdo.own ⟨hb.os, hb.tape, hb.output, hb.size, fun k hk hne => hb.block k hk (fun q => hne (by rw [q]))⟩ (.inr (fun e => hv e.symm))
theorem Lq.start {k : Nat} (hLp : Lp w es bM gM gO a c W Ds k f (x :: t) v) {W2 W3 W4 : World} {o1 : Obj} {N2 : List Nat} {v2 : Value} (k1 : N2.Perm t) (k2 : Hp (thK es) N2) (k3 : HpO w es (bM + 1 + 1 + 1) W2 (bM + 1) a c N2 v2) (k4 : Chg (bM + 1) v.ownBlock v2.ownBlock W W2)
    (hA : At 3 W3 gO ((ordV (leastN (evAt es) es.length k) es.length).set k (.int .i64 (x : Int)))) (hb : But gO (W2.alloc o1) W3) (hs : s = W3.heap.size) (h4 : Below W3.heap.size W3 W4) (hz : s + 3 ≤ W4.heap.size) :
    Lq w es bM gM gO s x a c Ds (leastN (evAt es) es.length k) t f [] W4 N2 v2 := by
  have hav := hLp.avd.chg k4 (fun q hq => by simp at hq; rw [hq]; exact hLp.ord.lt)
  have hL2 := hLp.lo.chg k3 k2 k4
  have hba : Below W2.heap.size W2 (W2.alloc o1) := (Below.refl _ _).alloc (Nat.le_refl _) _
  have hL3 := (hL2.keep (Cel.of_below hba hL2.lt)).but hb hLp.og (hav gO (by simp))
  have hL4 := hL3.keep (Cel.of_below h4 hL3.lt)
  have hsz : W2.heap.size + 1 ≤ W3.heap.size := by have := hb.size; simpa using this
  have hgl := hLp.ord.lt
  have hk := hLp.more.1
  have e := ordV_set (leastN (evAt es) es.length k) es.length x (by rw [leastN_length]; exact hk)
  rw [leastN_length] at e
  rw [e] at hA
  have h12 := k4.size
  refine ⟨hL4, by simpa [runS] using k1, hA.below h4, hLp.og, by omega, fun q hq => ?_, hz, fun D hD => ?_⟩
  · simp only [List.mem_cons, List.not_mem_nil, or_false] at hq
    rcases hq with rfl | hq
    · exact hav _ (by simp)
    · intro e2
      obtain ⟨o, h1, _⟩ := own_cells hL2.hp.rdo.own e2.symm
      have := (Array.getElem?_eq_some_iff.1 h1).1
      omega
  · obtain ⟨_, h2⟩ := hLp.mks D hD
    have h2lt := (Array.getElem?_eq_some_iff.1 h2).1
    refine ⟨by omega, ?_⟩
    have q1 := (keeps_chg (B := 0) k4 hLp.lo.hp.rdo.hd hLp.lo.hp.rdo.own).same D _ (Nat.zero_le _) h2 rfl
    have q2 := (hba.block D (by omega)).trans q1
    have hne : D ≠ gO := fun e3 => by
      rw [e3, show W.heap[gO]? = _ from hLp.ord] at h2
      cases h2
    have q3 := (hb.block D (by simp; omega) hne).trans q2
    exact (h4.block D (by omega)).trans q3
/-- A round's end. -/
theorem Lq.done {k D : Nat} (hLp : Lp w es bM gM gO a c W Ds k f (x :: t) v) {W2 : World} {N2 : List Nat} {v2 : Value} (hmin : ∀ y ∈ x :: t, thK es x ≤ thK es y)
    (h : Lq w es bM gM gO s x a c Ds (leastN (evAt es) es.length k) t f (bhTo (evAt es) x es.length) W2 N2 v2) (hD : s + 3 ≤ D) (hd : W2.heap[D]? = some (.deferred (some []))) : k < es.length ∧ Lp w es bM gM gO a c W2 (D :: Ds) (k + 1) (runS f (bhTo (evAt es) x es.length)).1 N2 v2 := by
  obtain ⟨e1, e2⟩ := runS_all f (bhTo_nodup (evAt es) x es.length)
  have hb := hLp.rdy.best (b := x) (List.mem_cons_self ..) hmin
  have hk : k < es.length := by
    have hle := hLp.le
    by_cases he : k = es.length
    · have h1 := (hLp.rdy.mem x).1 (List.mem_cons_self ..)
      have h2 := (mayE_iff.1 h1.2).1
      rw [he] at h2
      exact absurd ((lin_least (evAt es) es.length).all h1.1) h2
    · omega
  have hx := (hLp.rdy.mem x).1 (List.mem_cons_self ..)
  have hxo := (mayE_iff.1 hx.2).1
  have hdwn := least_dwn (evAt es) es.length k hLp.le
  have hnx := leastN_next hb
  have hgs := h.gs; have hgO := h.og
  refine ⟨hk, hk, h.lo, by rw [hnx]; exact h.ord, h.og, fun q hq => h.avd q (by simp at hq; simp [hq]), ?_, fun j hj => ?_, List.nodup_cons.2 ⟨fun hm => ?_, hLp.nod⟩, fun E hE => ?_⟩
  · rw [hnx]
    have h3 := Rdy.step (gen_hb (evAt es) es.length) hdwn hLp.rdy (new := (runS f (bhTo (evAt es) x es.length)).2) (by rw [e2]; exact List.Pairwise.filter _ (bhTo_nodup _ _ _)) (fun j => by
      rw [e2, List.mem_filter, bhTo_mem, decide_eq_true_eq]
      constructor
      · rintro ⟨⟨h1, h2⟩, h4⟩
        refine ⟨h1, fun hm => hxo (hdwn x j hm ((hbB_iff _ _ _).1 h2)), h2, ?_⟩
        rw [hLp.cnt j h1] at h4
        exact Int.ofNat.inj h4
      · rintro ⟨h1, h2, h3, h4⟩
        refine ⟨⟨h1, h3⟩, ?_⟩
        rw [hLp.cnt j h1]
        exact congrArg Int.ofNat h4)
    exact h3.perm h.per.symm
  · rw [e1, hLp.cnt j hj, hnx, lft_snoc j hx.1 hxo]
    simp only [bhTo_mem]
    by_cases hr : hbB (evAt es) j x = true
    · rw [if_pos (show hbRel (evAt es) x j = true from hr), if_pos ⟨hj, hr⟩]
      omega
    · rw [if_neg (show ¬ hbRel (evAt es) x j = true from hr), if_neg (fun q => hr q.2)]
      omega
  · have := (h.mks D hm).1
    omega
  · rcases List.mem_cons.1 hE with rfl | hE
    · exact ⟨by omega, hd⟩
    · exact ⟨(hLp.mks E hE).1, (h.mks E hE).2⟩
end
end Go.Proofs.Ytbamocalhojmeaa
