/- Joined texts of the proof. -/
import Derived.Test.YtbamocalhojmeaaJ16
import Derived.Test.YtbamocalhojmeaaJ19
import Derived.Shelf.Abstract

/- container/heap over norm's ready: up. -/
namespace Go.Proofs.Ytbamocalhojmeaa
open Go.RowKit
set_option linter.unusedVariables false
attribute [local go_sem ↓] Go.wp_at_zero Go.wp_at_succ

theorem OwnI.set {B : Nat} {w : World} {g k cp : Nat} {zs : List Int} (h : OwnI B w (.slice (some ⟨g, 0, none⟩) k cp) zs) (i : Nat) (z : Int) (hi : i < zs.length) : OwnI B (w.setCell ⟨g, i, none⟩ (.int .i64 z)) (.slice (some ⟨g, 0, none⟩) k cp) (zs.set i z) := by
  obtain ⟨h1, ⟨h2, _⟩ | ⟨g', cap, cur, h2, hg, hh, hn, hm, hs, ht⟩⟩ := h
  · cases h2
  · cases h2
    refine ⟨by simp, .inr ⟨g, cp, (cur.toList.set i (.int .i64 z)).toArray, ?_, hg, ?_, by simpa using hn, hm, by simpa using hs, ?_⟩⟩
    · simp
    · exact At.set (t := 3) (cs := cur.toList) (by unfold At; simpa using hh) i _
    · rw [show (zs.set i z).length * 1 = zs.length * 1 by simp, List.map_set, ← ht]
      simp only [List.take_set]
      rfl
theorem natI_swp (N : List Nat) (i j x y : Nat) (hx : N[i]? = some x) (hy : N[j]? = some y) : natI (swp N i j) = ((natI N).set i (y : Int)).set j (x : Int) := by
  rw [swp_eq hx hy]
  simp [natI, List.map_set]
theorem evAt_get {es : List Ev} {i : Nat} (h : i < es.length) : es[i]? = some (evAt es i) := by rw [evAt_eq (List.getElem?_eq_getElem h), List.getElem?_eq_getElem h]
/-- The key of an event's number: its thread. -/
def thK (es : List Ev) (x : Nat) : Int := (evAt es x).th
/-- The heap of numbers of a trace's events. -/
structure HpO (w0 : World) (es : List Ev) (B : Nat) (w : World) (gH : Nat) (a : Option Addr) (c : Nat) (N : List Nat) (v : Value) : Prop where
  rdo : Rdo B w gH a es.length c N v
  bel : Below w0.heap.size w0 w
  row : RowEv w0 a es
  le : w0.heap.size ≤ gH
  mem : ∀ x ∈ N, x < es.length
  szB : B ≤ w.heap.size
  few : N.length ≤ 1048576
section
variable {w0 : World} {es : List Ev} {B : Nat} {w w' : World} {gH : Nat} {a : Option Addr} {c : Nat} {N N' : List Nat} {v v' : Value}
theorem HpO.on (h : HpO w0 es B w gH a c N v) (hR : Rdo B w' gH a es.length c N' v') (hC : Chg gH v.ownBlock v'.ownBlock w w') (hm : ∀ x ∈ N', x < es.length) (hf : N'.length ≤ 1048576) : HpO w0 es B w' gH a c N' v' :=
  ⟨hR, h.bel.trans (hC.below h.le (fun k e => by have := h.rdo.own.block k e; have := h.rdo.lt; have := h.le; omega) h.bel.size), h.row, h.le, hm, Nat.le_trans h.szB hC.size, hf⟩
theorem HpO.drewN (h : HpO w0 es B w gH a c N v) (q : Nat) : HpO w0 es B (w.drewN q) gH a c N v := ⟨⟨h.rdo.hd, h.rdo.lt, h.rdo.own⟩, below_drN h.bel q, h.row, h.le, h.mem, h.szB, h.few⟩
theorem hpLen (h : HpO w0 es B w gH a c N v) : Calls Try.prog 54 #[.pointer (some ⟨gH, 0, none⟩)] w fun r w' => r = .returned (.int .i64 (N.length : Int)) ∧ w' = w := by
  obtain ⟨b, cp, hv, _⟩ := h.rdo.own.row
  rw [natI_length] at hv
  subst hv
  exact rLen w gH _ b N.length cp h.rdo.hd
theorem hpLess (h : HpO w0 es B w gH a c N v) {i j : Nat} (hi : i < N.length) (hj : j < N.length) : Calls Try.prog 106 #[.pointer (some ⟨gH, 0, none⟩), .int .i64 (i : Int), .int .i64 (j : Int)] w fun r w' => r = .returned (.bool (decide (keyF (thK es) N i < keyF (thK es) N j))) ∧ ∃ q, w' = w.drewN q := by
  obtain ⟨x, hx⟩ : ∃ x, N[i]? = some x := ⟨N[i], List.getElem?_eq_getElem hi⟩
  obtain ⟨y, hy⟩ : ∃ x, N[j]? = some x := ⟨N[j], List.getElem?_eq_getElem hj⟩
  obtain ⟨g, cp, hv, hB, hcp, hcell, _⟩ := h.rdo.own.at (by rw [natI_length]; omega)
  rw [natI_length] at hv
  have hxm := h.mem x (List.mem_of_getElem? hx)
  have hym := h.mem y (List.mem_of_getElem? hy)
  obtain ⟨ga, oa, ha1, k1⟩ := (h.row.below h.bel).at x (evAt es x) (evAt_get hxm)
  obtain ⟨g2, o2, ha2, k2⟩ := (h.row.below h.bel).at y (evAt es y) (evAt_get hym)
  rw [ha1] at ha2
  cases ha2
  have hd := h.rdo.hd
  rw [hv, ha1] at hd
  rw [keyF_at hx, keyF_at hy]
  exact rLess w gH ga oa es.length c g N.length cp i j x y _ _ hd hi hj (hcell i _ (by simp [natI, hx])) (hcell j _ (by simp [natI, hy])) hxm hym (range_cells k1).1 (range_cells k2).1
theorem hpSwap (h : HpO w0 es B w gH a c N v) {i j : Nat} (hi : i < N.length) (hj : j < N.length) : Calls Try.prog 109 #[.pointer (some ⟨gH, 0, none⟩), .int .i64 (i : Int), .int .i64 (j : Int)] w fun r w' => r = .returned (.tuple #[]) ∧ HpO w0 es B w' gH a c (swp N i j) v ∧ Chg gH v.ownBlock v.ownBlock w w' := by
  obtain ⟨x, hx⟩ : ∃ x, N[i]? = some x := ⟨N[i], List.getElem?_eq_getElem hi⟩
  obtain ⟨y, hy⟩ : ∃ x, N[j]? = some x := ⟨N[j], List.getElem?_eq_getElem hj⟩
  obtain ⟨g, cp, hv, hB, hcp, hcell, hfr⟩ := h.rdo.own.at (by rw [natI_length]; omega)
  rw [natI_length] at hv
  subst hv
  have hlt := h.rdo.lt
  refine (rSwap w gH g N.length cp i j (x : Int) (y : Int) _ h.rdo.hd (by omega) hi hj (hcell i _ (by simp [natI, hx])) (hcell j _ (by simp [natI, hy])) (hfr i) (hfr j)).mono ?_
  rintro r w' ⟨rfl, q, rfl⟩
  have hC : Chg gH (some g) (some g) w (((w.setCell ⟨g, i, none⟩ (.int .i64 (y : Int))).setCell ⟨g, j, none⟩ (.int .i64 (x : Int))).drewN q) := ((Chg.setO gH g w i _).trans (Chg.setO gH g _ j _)).drewN q
  refine ⟨rfl, h.on ⟨?_, hlt, ?_⟩ hC (fun z hz => h.mem z ((swp_perm N i j).mem_iff.1 hz)) (by rw [swp_length]; exact h.few), hC⟩
  · exact ((h.rdo.hd.setOther ⟨g, i, none⟩ _ (by show gH ≠ g; omega)).setOther ⟨g, j, none⟩ _ (by show gH ≠ g; omega)).drewN q
  · rw [natI_swp N i j x y hx hy]
    have h1 := (h.rdo.own.set i (y : Int) (by rw [natI_length]; exact hi)).set j (x : Int) (by rw [List.length_set, natI_length]; exact hj)
    exact h1
end
theorem mLess (gH : Nat) (w : World) : Sem.run Try.prog (method 245 79 (.pointer (some ⟨gH, 0, none⟩)) "Less") w = .ok (106, .pointer (some ⟨gH, 0, none⟩)) w := by kernel_rfl
theorem mSwap (gH : Nat) (w : World) : Sem.run Try.prog (method 245 79 (.pointer (some ⟨gH, 0, none⟩)) "Swap") w = .ok (109, .pointer (some ⟨gH, 0, none⟩)) w := by kernel_rfl
theorem mLen (gH : Nat) (w : World) : Sem.run Try.prog (method 245 79 (.pointer (some ⟨gH, 0, none⟩)) "Len") w = .ok (54, .pointer (some ⟨gH, 0, none⟩)) w := by kernel_rfl
theorem mPush (gH : Nat) (w : World) : Sem.run Try.prog (method 245 79 (.pointer (some ⟨gH, 0, none⟩)) "Push") w = .ok (108, .pointer (some ⟨gH, 0, none⟩)) w := by kernel_rfl
theorem mPop (gH : Nat) (w : World) : Sem.run Try.prog (method 245 79 (.pointer (some ⟨gH, 0, none⟩)) "Pop") w = .ok (107, .pointer (some ⟨gH, 0, none⟩)) w := by kernel_rfl

set_option maxRecDepth 100000 in
set_option maxHeartbeats 6400000 in
theorem up_any (w0 : World) (es : List Ev) (B : Nat) (w : World) (gH : Nat) (a : Option Addr) (c : Nat) (N : List Nat) (v : Value) (j : Nat) (h : HpO w0 es B w gH a c N v) (hj : j < N.length) (hU : UpI (keyF (thK es) N) N.length j) :
    Calls Try.prog 66 #[.iface 79 (.pointer (some ⟨gH, 0, none⟩)), .int .i64 (j : Int)] w fun r w' => r = .returned (.tuple #[]) ∧ ∃ N', N'.Perm N ∧ Hp (thK es) N' ∧ HpO w0 es B w' gH a c N' v ∧ Chg gH v.ownBlock v.ownBlock w w' := by
  have mL := mLess gH
  have mS := mSwap gH
  have eL : ∀ args w, (callFunc 106 args).run Try.prog w = .ok (.enter 106 args) w := enters_of Try.func106 (by kernel_rfl) rfl
  have eS : ∀ args w, (callFunc 109 args).run Try.prog w = .ok (.enter 109 args) w := enters_of Try.func109 (by kernel_rfl) rfl
  have hfew := h.few
  have H0 : Hid (∃ M : List Nat, M.Perm N ∧ M.length = N.length ∧ UpI (keyF (thK es) M) M.length j ∧ HpO w0 es B w gH a c M v ∧ Chg gH v.ownBlock v.ownBlock w w) := ⟨N, .refl _, rfl, hU, h, Chg.refl _ _ _⟩
  clear h hU
  go_enter Try.func66, Try.ntmps66
  go_wp2_with fail
  go_loopw [1] (fun s wr => ∃ k : Nat, s = .int .i64 (k : Int) ∧ k < N.length ∧ Hid (∃ M : List Nat, M.Perm N ∧ M.length = N.length ∧ UpI (keyF (thK es) M) M.length k ∧ HpO w0 es B wr gH a c M v ∧ Chg gH v.ownBlock v.ownBlock w wr)) (fun s _ => (intOf s).toNat)
  case atStart => exact ⟨j, rfl, hj, H0.out⟩
  case round =>
    obtain ⟨k, rfl, hk, hM⟩ := hrel
    clear H0 hj
    obtain ⟨M, hp, hl, hu, hO, hC⟩ := hM.out
    clear hM
    by_cases hk0 : k = 0
    · subst hk0
      have HF : Hid (∃ N', N'.Perm N ∧ Hp (thK es) N' ∧ HpO w0 es B wr gH a c N' v ∧ Chg gH v.ownBlock v.ownBlock w wr) := ⟨M, hp, up_end hu (.inl rfl), hO, hC⟩
      clear hp hl hu hO hC
      go_wp2_with fail
      go_end0
      exact ⟨rfl, HF.out⟩
    · obtain ⟨p, hpe⟩ : ∃ p, p = (k - 1) / 2 := ⟨_, rfl⟩
      have hq : ((k : Int) - 1).tdiv 2 = (p : Int) := by
        rw [show (k : Int) - 1 = ((k - 1 : Nat) : Int) by omega, hpe]
        rfl
      have hne : ((p : Int) == (k : Int)) = false := beq_eq_false_iff_ne.2 (by omega)
      have hpk : p < k := by omega
      have hpp : Hid (p = (k - 1) / 2) := hpe
      clear hpe
      have HL := hidU (hpLess hO (i := k) (j := p) (by omega) (by omega))
      have HO := hidU hO
      have HU := hidU hu
      have HP := hidU hp
      have HC := hidU hC
      clear hO hu hp hC
      cases hd : decide (keyF (thK es) M k < keyF (thK es) M p) with
      | false =>
        rw [hd] at HL
        have HD := hidU hd
        clear hd
        have HF : ∀ q, Hid (∃ N', N'.Perm N ∧ Hp (thK es) N' ∧ HpO w0 es B (wr.drewN q) gH a c N' v ∧ Chg gH v.ownBlock v.ownBlock w (wr.drewN q)) := fun q =>
          ⟨M, HP.out, up_end HU.out (.inr (by rw [← hpp.out]; have := of_decide_eq_false HD.out; omega)), HO.out.drewN q, HC.out.drewN q⟩
        go_wp2_with (go_at_call 106; refine HL.out.mono ?_; rintro e w' ⟨rfl, q, rfl⟩)
        go_end0
        exact ⟨rfl, (HF q).out⟩
      | true =>
        rw [hd] at HL
        have HD := hidU hd
        clear hd
        have HS : Hid (∀ q, Calls Try.prog 109 #[.pointer (some ⟨gH, 0, none⟩), .int .i64 (p : Int), .int .i64 (k : Int)] (wr.drewN q) fun r w' => r = .returned (.tuple #[]) ∧ HpO w0 es B w' gH a c (swp M p k) v ∧ Chg gH v.ownBlock v.ownBlock (wr.drewN q) w') := fun q => hpSwap (HO.out.drewN q) (by omega) (by omega)
        have HN : Hid (∀ q u, HpO w0 es B u gH a c (swp M p k) v → Chg gH v.ownBlock v.ownBlock (wr.drewN q) u → ∃ M : List Nat, M.Perm N ∧ M.length = N.length ∧ UpI (keyF (thK es) M) M.length p ∧ HpO w0 es B u gH a c M v ∧ Chg gH v.ownBlock v.ownBlock w u) := fun q u h1 h2 =>
          ⟨swp M p k, (swp_perm M p k).trans HP.out, by rw [swp_length]; exact hl, by
            rw [swp_length, keyF_swp _ (by omega) (by omega)]
            exact up_step HU.out (by omega) (by omega) hpp.out (of_decide_eq_true HD.out), h1, (HC.out.drewN q).trans h2⟩
        go_wp2_with (first | (go_at_call 106; refine HL.out.mono ?_; rintro e w' ⟨rfl, q, rfl⟩) | (go_at_call 109; refine (HS.out q).mono ?_; rintro e w2 ⟨rfl, hO2, hC2⟩; have HO2 := hidU hO2; have HC2 := hidU hC2; clear hO2 hC2))
        go_roundw
        case rel => exact ⟨p, by go_num, by omega, HN.out q w2 HO2.out HC2.out⟩
        case measure => simp [intOf]; omega
end Go.Proofs.Ytbamocalhojmeaa

/- container/heap over norm's ready: down. -/
namespace Go.Proofs.Ytbamocalhojmeaa
open Go.RowKit
set_option linter.unusedVariables false
attribute [local go_sem ↓] Go.wp_at_zero Go.wp_at_succ

/-- Where down is: at i, of the first n. -/
structure Dwi (w0 : World) (es : List Ev) (B : Nat) (w : World) (gH : Nat) (a : Option Addr) (c : Nat) (N : List Nat) (v : Value) (n i : Nat) (M : List Nat) (wr : World) : Prop where
  perm : M.Perm N
  len : M.length = N.length
  rest : ∀ x, n ≤ x → M[x]? = N[x]?
  dn : DnI (keyF (thK es) M) 0 n i
  hp : HpO w0 es B wr gH a c M v
  ch : Chg gH v.ownBlock v.ownBlock w wr
theorem drewN_add (w : World) (p q : Nat) : w.drewN (p + q) = (w.drewN p).drewN q := by simp [World.drewN, Nat.add_assoc]
section
variable {w0 : World} {es : List Ev} {B : Nat} {w : World} {gH : Nat} {a : Option Addr} {c : Nat} {N : List Nat} {v : Value} {n i : Nat} {M : List Nat} {wr : World}
theorem Dwi.stop (h : Dwi w0 es B w gH a c N v n i M wr) (q : Nat) (hj : ∀ x, 0 < x → x < n → (x - 1) / 2 = i → keyF (thK es) M i ≤ keyF (thK es) M x) :
    ∃ N', N'.Perm N ∧ N'.length = N.length ∧ (∀ x, n ≤ x → N'[x]? = N[x]?) ∧ HpL (keyF (thK es) N') 0 n ∧ HpO w0 es B (wr.drewN q) gH a c N' v ∧ Chg gH v.ownBlock v.ownBlock w (wr.drewN q) :=
  ⟨M, h.perm, h.len, h.rest, dn_end h.dn hj, h.hp.drewN q, h.ch.drewN q⟩
theorem Dwi.next (h : Dwi w0 es B w gH a c N v n i M wr) (q : Nat) {j : Nat} (hn : n ≤ N.length) (h0 : 0 < j) (hj : j < n) (hi : (j - 1) / 2 = i) (hl : keyF (thK es) M j < keyF (thK es) M i) (hm : ∀ x, 0 < x → x < n → (x - 1) / 2 = i → keyF (thK es) M j ≤ keyF (thK es) M x)
    {u : World} (h1 : HpO w0 es B u gH a c (swp M i j) v) (h2 : Chg gH v.ownBlock v.ownBlock (wr.drewN q) u) : Dwi w0 es B w gH a c N v n j (swp M i j) u := by
  have hl2 := h.len
  refine ⟨(swp_perm M i j).trans h.perm, by rw [swp_length]; exact h.len, fun x hx => ?_, ?_, h1, (h.ch.drewN q).trans h2⟩
  · rw [swp_at (by omega) (by omega), if_neg (by omega), if_neg (by omega)]
    exact h.rest x hx
  · rw [keyF_swp _ (by omega) (by omega)]
    exact dn_step h.dn (Nat.zero_le _) h0 hj hi hl hm
end

set_option maxRecDepth 100000 in
set_option maxHeartbeats 12800000 in
theorem down_any (w0 : World) (es : List Ev) (B : Nat) (w : World) (gH : Nat) (a : Option Addr) (c : Nat) (N : List Nat) (v : Value) (n : Nat) (h : HpO w0 es B w gH a c N v) (hn : n ≤ N.length) (hD : DnI (keyF (thK es) N) 0 n 0) :
    Calls Try.prog 67 #[.iface 79 (.pointer (some ⟨gH, 0, none⟩)), .int .i64 0, .int .i64 (n : Int)] w fun r w' => (∃ b, r = .returned (.bool b)) ∧ ∃ N', N'.Perm N ∧ N'.length = N.length ∧ (∀ x, n ≤ x → N'[x]? = N[x]?) ∧ HpL (keyF (thK es) N') 0 n ∧ HpO w0 es B w' gH a c N' v ∧ Chg gH v.ownBlock v.ownBlock w w' := by
  have mL := mLess gH
  have mS := mSwap gH
  have eL : ∀ args w, (callFunc 106 args).run Try.prog w = .ok (.enter 106 args) w := enters_of Try.func106 (by kernel_rfl) rfl
  have eS : ∀ args w, (callFunc 109 args).run Try.prog w = .ok (.enter 109 args) w := enters_of Try.func109 (by kernel_rfl) rfl
  have hfew := h.few
  have H0 : Hid (Dwi w0 es B w gH a c N v n 0 N w) := ⟨.refl _, rfl, fun _ _ => rfl, hD, h, Chg.refl _ _ _⟩
  clear h hD
  go_enter Try.func67, Try.ntmps67
  go_wp2_with fail
  go_loopw [7] (fun s wr => ∃ i : Nat, s = .int .i64 (i : Int) ∧ i ≤ n ∧ Hid (∃ M, Dwi w0 es B w gH a c N v n i M wr)) (fun s _ => n + 1 - (intOf s).toNat)
  case atStart => exact ⟨0, rfl, Nat.zero_le _, N, H0.out⟩
  case round =>
    obtain ⟨i, rfl, hi, hM⟩ := hrel
    clear H0
    obtain ⟨M, hM⟩ := hM.out
    have HM := hidU hM
    have hlen := hM.len
    clear hM
    obtain ⟨j1, hj1⟩ : ∃ j, Hid (j = 2 * i + 1) := ⟨_, (rfl : _ = _)⟩
    have e1 : 2 * (i : Int) + 1 = (j1 : Int) := by have := hj1.out; omega
    have q1 : ((j1 : Int) < 0) = False := by simp
    have q0 : decide ((j1 : Int) < 0) = false := by simp
    by_cases c1 : j1 < n
    · have c1' : (j1 : Int) < (n : Int) := by omega
      obtain ⟨j2, hj2⟩ : ∃ j, Hid (j = 2 * i + 2) := ⟨_, (rfl : _ = _)⟩
      have e2 : (j1 : Int) + 1 = (j2 : Int) := by have := hj1.out; have := hj2.out; omega
      have hi1 : i < j1 := by have := hj1.out; omega
      by_cases c2 : j2 < n
      · have c2' : (j2 : Int) < (n : Int) := by omega
        have HL := hidU (hpLess HM.out.hp (i := j2) (j := j1) (by omega) (by omega))
        cases hd : decide (keyF (thK es) M j2 < keyF (thK es) M j1) with
        | true =>
          rw [hd] at HL
          have HD := hidU hd
          clear hd
          have HMN : Hid (∀ x, 0 < x → x < n → (x - 1) / 2 = i → keyF (thK es) M j2 ≤ keyF (thK es) M x) := fun x h1 h2 h3 => by
            have := hj1.out; have := hj2.out; have := of_decide_eq_true HD.out
            rcases (show x = j1 ∨ x = j2 by omega) with rfl | rfl
            · omega
            · exact Int.le_refl _
          have HL2 : Hid (∀ q, Calls Try.prog 106 #[.pointer (some ⟨gH, 0, none⟩), .int .i64 (j2 : Int), .int .i64 (i : Int)] (wr.drewN q) fun r w' => r = .returned (.bool (decide (keyF (thK es) M j2 < keyF (thK es) M i))) ∧ ∃ q2, w' = (wr.drewN q).drewN q2) := fun q => hpLess (HM.out.hp.drewN q) (i := j2) (j := i) (by omega) (by omega)
          cases hd2 : decide (keyF (thK es) M j2 < keyF (thK es) M i) with
          | false =>
            rw [hd2] at HL2
            have HD2 := hidU hd2
            clear hd2
            have HF : Hid (∀ q q2, ∃ N', N'.Perm N ∧ N'.length = N.length ∧ (∀ x, n ≤ x → N'[x]? = N[x]?) ∧ HpL (keyF (thK es) N') 0 n ∧ HpO w0 es B (wr.drewN (q + q2)) gH a c N' v ∧ Chg gH v.ownBlock v.ownBlock w (wr.drewN (q + q2))) := fun q q2 => by
              exact HM.out.stop (q + q2) (fun x h1 h2 h3 => Int.le_trans (Int.not_lt.1 (of_decide_eq_false HD2.out)) (HMN.out x h1 h2 h3))
            go_wp2_with (go_at_call 106; refine HL.out.mono ?_; rintro e w' ⟨rfl, q, rfl⟩; refine Hid.out ?_)
            refine hidU ?_
            go_wp2_with (go_at_call 106; refine (HL2.out q).mono ?_; rintro e w2 ⟨rfl, q2, rfl⟩)
            go_ret
            exact ⟨⟨_, rfl⟩, HF.out q q2⟩
          | true =>
            rw [hd2] at HL2
            have HD2 := hidU hd2
            clear hd2
            have HS : Hid (∀ q q2, Calls Try.prog 109 #[.pointer (some ⟨gH, 0, none⟩), .int .i64 (i : Int), .int .i64 (j2 : Int)] (wr.drewN (q + q2)) fun r w' => r = .returned (.tuple #[]) ∧ HpO w0 es B w' gH a c (swp M i j2) v ∧ Chg gH v.ownBlock v.ownBlock (wr.drewN (q + q2)) w') := fun q q2 => hpSwap (HM.out.hp.drewN (q + q2)) (by omega) (by omega)
            have HNX : Hid (∀ q q2, ∀ u, HpO w0 es B u gH a c (swp M i j2) v → Chg gH v.ownBlock v.ownBlock (wr.drewN (q + q2)) u → ∃ M, Dwi w0 es B w gH a c N v n j2 M u) := fun q q2 => fun u h1 h2 => ⟨_, HM.out.next (q + q2) hn (by omega) (by omega) (by have := hj1.out; have := hj2.out; omega) (of_decide_eq_true HD2.out) HMN.out h1 (by exact h2)⟩
            go_wp2_with (go_at_call 106; refine HL.out.mono ?_; rintro e w' ⟨rfl, q, rfl⟩; refine Hid.out ?_)
            refine hidU ?_
            go_wp2_with (first | (go_at_call 106; refine (HL2.out q).mono ?_; rintro e w2 ⟨rfl, q2, rfl⟩) | (go_at_call 109; refine (HS.out q q2).mono ?_; rintro e w3 ⟨rfl, hO3, hC3⟩; have HO3 := hidU hO3; have HC3 := hidU hC3; clear hO3 hC3))
            go_roundw
            case rel => exact ⟨j2, by go_num, by omega, HNX.out q q2 w3 HO3.out HC3.out⟩
            case measure => simp [intOf]; omega
        | false =>
          rw [hd] at HL
          have HD := hidU hd
          clear hd
          have HMN : Hid (∀ x, 0 < x → x < n → (x - 1) / 2 = i → keyF (thK es) M j1 ≤ keyF (thK es) M x) := fun x h1 h2 h3 => by
            have := hj1.out; have := hj2.out; have := of_decide_eq_false HD.out
            rcases (show x = j1 ∨ x = j2 by omega) with rfl | rfl
            · exact Int.le_refl _
            · omega
          have HL2 : Hid (∀ q, Calls Try.prog 106 #[.pointer (some ⟨gH, 0, none⟩), .int .i64 (j1 : Int), .int .i64 (i : Int)] (wr.drewN q) fun r w' => r = .returned (.bool (decide (keyF (thK es) M j1 < keyF (thK es) M i))) ∧ ∃ q2, w' = (wr.drewN q).drewN q2) := fun q => hpLess (HM.out.hp.drewN q) (i := j1) (j := i) (by omega) (by omega)
          cases hd2 : decide (keyF (thK es) M j1 < keyF (thK es) M i) with
          | false =>
            rw [hd2] at HL2
            have HD2 := hidU hd2
            clear hd2
            have HF : Hid (∀ q q2, ∃ N', N'.Perm N ∧ N'.length = N.length ∧ (∀ x, n ≤ x → N'[x]? = N[x]?) ∧ HpL (keyF (thK es) N') 0 n ∧ HpO w0 es B (wr.drewN (q + q2)) gH a c N' v ∧ Chg gH v.ownBlock v.ownBlock w (wr.drewN (q + q2))) := fun q q2 => by
              exact HM.out.stop (q + q2) (fun x h1 h2 h3 => Int.le_trans (Int.not_lt.1 (of_decide_eq_false HD2.out)) (HMN.out x h1 h2 h3))
            go_wp2_with (go_at_call 106; refine HL.out.mono ?_; rintro e w' ⟨rfl, q, rfl⟩; refine Hid.out ?_)
            refine hidU ?_
            go_wp2_with (go_at_call 106; refine (HL2.out q).mono ?_; rintro e w2 ⟨rfl, q2, rfl⟩)
            go_ret
            exact ⟨⟨_, rfl⟩, HF.out q q2⟩
          | true =>
            rw [hd2] at HL2
            have HD2 := hidU hd2
            clear hd2
            have HS : Hid (∀ q q2, Calls Try.prog 109 #[.pointer (some ⟨gH, 0, none⟩), .int .i64 (i : Int), .int .i64 (j1 : Int)] (wr.drewN (q + q2)) fun r w' => r = .returned (.tuple #[]) ∧ HpO w0 es B w' gH a c (swp M i j1) v ∧ Chg gH v.ownBlock v.ownBlock (wr.drewN (q + q2)) w') := fun q q2 => hpSwap (HM.out.hp.drewN (q + q2)) (by omega) (by omega)
            have HNX : Hid (∀ q q2, ∀ u, HpO w0 es B u gH a c (swp M i j1) v → Chg gH v.ownBlock v.ownBlock (wr.drewN (q + q2)) u → ∃ M, Dwi w0 es B w gH a c N v n j1 M u) := fun q q2 => fun u h1 h2 => ⟨_, HM.out.next (q + q2) hn (by omega) (by omega) (by have := hj1.out; have := hj2.out; omega) (of_decide_eq_true HD2.out) HMN.out h1 (by exact h2)⟩
            go_wp2_with (go_at_call 106; refine HL.out.mono ?_; rintro e w' ⟨rfl, q, rfl⟩; refine Hid.out ?_)
            refine hidU ?_
            go_wp2_with (first | (go_at_call 106; refine (HL2.out q).mono ?_; rintro e w2 ⟨rfl, q2, rfl⟩) | (go_at_call 109; refine (HS.out q q2).mono ?_; rintro e w3 ⟨rfl, hO3, hC3⟩; have HO3 := hidU hO3; have HC3 := hidU hC3; clear hO3 hC3))
            go_roundw
            case rel => exact ⟨j1, by go_num, by omega, HNX.out q q2 w3 HO3.out HC3.out⟩
            case measure => simp [intOf]; omega
      · have c2' : decide ((j2 : Int) < (n : Int)) = false := by simp; omega
        have HMN : Hid (∀ x, 0 < x → x < n → (x - 1) / 2 = i → keyF (thK es) M j1 ≤ keyF (thK es) M x) := fun x h1 h2 h3 => by
          have := hj1.out; have := hj2.out
          obtain rfl : x = j1 := by omega
          exact Int.le_refl _
        have HL2 : Hid (Calls Try.prog 106 #[.pointer (some ⟨gH, 0, none⟩), .int .i64 (j1 : Int), .int .i64 (i : Int)] wr fun r w' => r = .returned (.bool (decide (keyF (thK es) M j1 < keyF (thK es) M i))) ∧ ∃ q2, w' = wr.drewN q2) := hpLess HM.out.hp (i := j1) (j := i) (by omega) (by omega)
        cases hd2 : decide (keyF (thK es) M j1 < keyF (thK es) M i) with
        | false =>
          rw [hd2] at HL2
          have HD2 := hidU hd2
          clear hd2
          have HF : Hid (∀ q2, ∃ N', N'.Perm N ∧ N'.length = N.length ∧ (∀ x, n ≤ x → N'[x]? = N[x]?) ∧ HpL (keyF (thK es) N') 0 n ∧ HpO w0 es B (wr.drewN q2) gH a c N' v ∧ Chg gH v.ownBlock v.ownBlock w (wr.drewN q2)) := fun q2 => by
            exact HM.out.stop q2 (fun x h1 h2 h3 => Int.le_trans (Int.not_lt.1 (of_decide_eq_false HD2.out)) (HMN.out x h1 h2 h3))
          go_wp2_with (go_at_call 106; refine HL2.out.mono ?_; rintro e w2 ⟨rfl, q2, rfl⟩)
          go_ret
          exact ⟨⟨_, rfl⟩, HF.out q2⟩
        | true =>
          rw [hd2] at HL2
          have HD2 := hidU hd2
          clear hd2
          have HS : Hid (∀ q2, Calls Try.prog 109 #[.pointer (some ⟨gH, 0, none⟩), .int .i64 (i : Int), .int .i64 (j1 : Int)] (wr.drewN q2) fun r w' => r = .returned (.tuple #[]) ∧ HpO w0 es B w' gH a c (swp M i j1) v ∧ Chg gH v.ownBlock v.ownBlock (wr.drewN q2) w') := fun q2 => hpSwap (HM.out.hp.drewN q2) (by omega) (by omega)
          have HNX : Hid (∀ q2, ∀ u, HpO w0 es B u gH a c (swp M i j1) v → Chg gH v.ownBlock v.ownBlock (wr.drewN q2) u → ∃ M, Dwi w0 es B w gH a c N v n j1 M u) := fun q2 => fun u h1 h2 => ⟨_, HM.out.next q2 hn (by omega) (by omega) (by have := hj1.out; have := hj2.out; omega) (of_decide_eq_true HD2.out) HMN.out h1 (by exact h2)⟩
          go_wp2_with (first | (go_at_call 106; refine HL2.out.mono ?_; rintro e w2 ⟨rfl, q2, rfl⟩) | (go_at_call 109; refine (HS.out q2).mono ?_; rintro e w3 ⟨rfl, hO3, hC3⟩; have HO3 := hidU hO3; have HC3 := hidU hC3; clear hO3 hC3))
          go_roundw
          case rel => exact ⟨j1, by go_num, by omega, HNX.out q2 w3 HO3.out HC3.out⟩
          case measure => simp [intOf]; omega
    · have c1' : decide ((n : Int) ≤ (j1 : Int)) = true := by simp; omega
      have HF : Hid (∃ N', N'.Perm N ∧ N'.length = N.length ∧ (∀ x, n ≤ x → N'[x]? = N[x]?) ∧ HpL (keyF (thK es) N') 0 n ∧ HpO w0 es B wr gH a c N' v ∧ Chg gH v.ownBlock v.ownBlock w wr) := HM.out.stop 0 (fun x h1 h2 h3 => by have := hj1.out; omega)
      go_wp2_with fail
      go_ret
      exact ⟨⟨_, rfl⟩, HF.out⟩
end Go.Proofs.Ytbamocalhojmeaa
