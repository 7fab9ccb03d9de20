/- NormKnown: the examples, reckoned; the walk, given what norm tells. -/
import Derived.Test.YtbamocalhojmeaaJ29
namespace Go.Proofs.Ytbamocalhojmeaa
open Go.RowKit
set_option linter.unusedVariables false
attribute [local go_sem ↓] Go.wp_at_zero Go.wp_at_succ

/-- What comes ahead, by so much fuel. -/
def hrF (R : Nat → Nat → Bool) : Nat → Nat → Nat → Bool
  | 0, _, _ => false
  | f + 1, j, i => decide (i < j) && (R i j || (List.range j).any fun k => hrF R f k i && R k j)
theorem hrF_iff (R : Nat → Nat → Bool) : ∀ f j i, j ≤ f → (hrF R f j i = true ↔ HR R i j)
  | 0, j, i, h => by
    obtain rfl : j = 0 := by omega
    simp only [hrF, Bool.false_eq_true, false_iff]
    intro h
    have := h.lt
    omega
  | f + 1, j, i, h => by
    simp only [hrF, Bool.and_eq_true, decide_eq_true_eq, Bool.or_eq_true, List.any_eq_true, List.mem_range]
    constructor
    · rintro ⟨h1, h2 | ⟨k, h3, h4, h5⟩⟩
      · exact .dep h1 h2
      · exact .step ((hrF_iff R f k i (by omega)).1 h4) h3 h5
    · intro hh
      refine ⟨hh.lt, ?_⟩
      cases hh with
      | dep h1 h2 => exact .inl h2
      | step h0 h1 h2 => exact .inr ⟨_, h1, (hrF_iff R f _ i (by omega)).2 h0, h2⟩
def hbR (ev : Nat → Ev) (j i : Nat) : Bool := hrF (fun i j => depB (ev i) (ev j)) j j i
theorem hbR_eq (ev : Nat → Ev) : hbB ev = hbR ev := by
  funext j i
  rw [Bool.eq_iff_iff, hbB_iff, hb_hr, hbR, hrF_iff _ j j i (Nat.le_refl _)]
/-- The least form and the levels by any order of what happens ahead. -/
def bestG (H : Nat → Nat → Bool) (ev : Nat → Ev) (out : List Nat) : Nat → Option Nat
  | 0 => none
  | k + 1 => if (!memB out k && (List.range k).all fun i => memB out i || !H k i) && beats ev k (bestG H ev out k) then some k else bestG H ev out k
theorem bestG_eq (ev : Nat → Ev) (out : List Nat) : ∀ k, bestN ev out k = bestG (hbB ev) ev out k
  | 0 => rfl
  | k + 1 => by
    rw [bestN, bestG, bestG_eq ev out k]
    rfl
def leastG (H : Nat → Nat → Bool) (ev : Nat → Ev) (n : Nat) : Nat → List Nat
  | 0 => []
  | s + 1 => leastG H ev n s ++ [(bestG H ev (leastG H ev n s) n).getD 0]
theorem leastG_eq (ev : Nat → Ev) (n : Nat) : ∀ s, leastN ev n s = leastG (hbB ev) ev n s
  | 0 => rfl
  | s + 1 => by rw [leastN, leastG, leastG_eq ev n s, bestG_eq]
def lvToG (f : Nat → Nat) (H : Nat → Nat → Bool) (j : Nat) : Nat → Nat
  | 0 => 0
  | k + 1 => if H j k then max (lvToG f H j k) (f k + 1) else lvToG f H j k
theorem lvToG_eq (f : Nat → Nat) (ev : Nat → Ev) (j : Nat) : ∀ k, lvTo f ev j k = lvToG f (hbB ev) j k
  | 0 => rfl
  | k + 1 => by rw [lvTo, lvToG, lvToG_eq f ev j k]
def levLG (H : Nat → Nat → Bool) : Nat → List Nat
  | 0 => []
  | m + 1 => levLG H m ++ [lvToG (fun i => (levLG H m).getD i 0) H m m]
theorem levLG_eq (ev : Nat → Ev) : ∀ m, levL ev m = levLG (hbB ev) m
  | 0 => rfl
  | m + 1 => by rw [levL, levLG, levLG_eq ev m, lvToG_eq]
def levG (H : Nat → Nat → Bool) (j : Nat) : Nat := (levLG H (j + 1)).getD j 0
theorem levG_eq (ev : Nat → Ev) : lev ev = levG (hbB ev) := by funext j; rw [lev, levG, levLG_eq]
def mostG (L : Nat → Nat) : Nat → Int
  | 0 => -1
  | j + 1 => max (mostG L j) (L j : Int)
theorem mostG_eq (ev : Nat → Ev) : ∀ j, mostTo ev j = mostG (lev ev) j
  | 0 => rfl
  | j + 1 => by rw [mostTo, mostG, mostG_eq ev j]
def levelsG (L : Nat → Nat) (ev : Nat → Ev) (m n : Nat) : List (List Nat) := (List.range (mostG L m + 1).toNat).map fun k => (List.range n).flatMap fun (t : Nat) => (List.range m).filter fun x => decide (L x = k) && decide ((ev x).th = (t : Int))
theorem levelsG_eq (ev : Nat → Ev) (m n : Nat) : levelsE ev m n = levelsG (levG (hbB ev)) ev m n := by
  unfold levelsE levelsL levelsG lvRows lvRow
  rw [mostG_eq, levG_eq]
def leastQ (es : List Ev) : List Nat := leastG (hbR (evAt es)) (evAt es) es.length es.length
theorem leastQ_eq (es : List Ev) : leastL (evAt es) es.length = leastQ es := by unfold leastL leastQ; rw [leastG_eq, hbR_eq]
theorem leastZ_q {es : List Ev} {n : Int} (hw : wrongZ es n = 0) : leastZ es n = natI (leastQ es) := by unfold leastZ; rw [if_pos hw, leastQ_eq]
theorem levelsZ_q {es : List Ev} {n : Int} (hw : wrongZ es n = 0) : levelsZ es n = (levelsG (levG (hbR (evAt es))) (evAt es) es.length n.toNat).map natI := by unfold levelsZ; rw [if_pos hw, levelsG_eq, hbR_eq]
theorem leastE_q (es : List Ev) : leastE es = evsAt (evAt es) (leastQ es) := by unfold leastE; rw [leastQ_eq]
def exA : List Ev := [⟨1, 0, 0⟩, ⟨0, 0, 0⟩]
def exA' : List Ev := [⟨0, 0, 0⟩, ⟨1, 0, 0⟩]
def exB : List Ev := [⟨1, 2, 0⟩, ⟨0, 1, 0⟩, ⟨1, 0, 0⟩]
def exC : List Ev := [⟨1, 3, 0⟩, ⟨0, 2, 0⟩, ⟨1, 4, 0⟩]
theorem exA_w : wrongZ exA 2 = 0 := by decide +kernel
theorem exA'_w : wrongZ exA' 2 = 0 := by decide +kernel
theorem exB_w : wrongZ exB 2 = 0 := by decide +kernel
theorem exC_w : wrongZ exC 2 = 0 := by decide +kernel
theorem exA_l : leastZ exA 2 = [1, 0] := by rw [leastZ_q exA_w]; decide +kernel
theorem exB_l : leastZ exB 2 = [0, 1, 2] := by rw [leastZ_q exB_w]; decide +kernel
theorem exC_l : leastZ exC 2 = [1, 0, 2] := by rw [leastZ_q exC_w]; decide +kernel
theorem exA_v : levelsZ exA 2 = [[1, 0]] := by rw [levelsZ_q exA_w]; decide +kernel
theorem exB_v : levelsZ exB 2 = [[0], [1, 2]] := by rw [levelsZ_q exB_w]; decide +kernel
theorem exC_v : levelsZ exC 2 = [[1, 0], [2]] := by rw [levelsZ_q exC_w]; decide +kernel
theorem evq : (leastQ exA).map (evAt exA) = [⟨0, 0, 0⟩, ⟨1, 0, 0⟩] ∧ (leastQ exA').map (evAt exA') = [⟨0, 0, 0⟩, ⟨1, 0, 0⟩] := by
  have h1 : leastQ exA = [1, 0] := by decide +kernel
  have h2 : leastQ exA' = [0, 1] := by decide +kernel
  rw [h1, h2]
  exact ⟨rfl, rfl⟩
theorem exA_e : equivZ exA exA' 2 = true ∧ equivW exA exA' 2 = 0 := by
  refine ⟨?_, ?_⟩
  · unfold equivZ
    rw [if_pos ⟨exA_w, exA'_w⟩, leastE_q, leastE_q]
    unfold evsAt sameEv
    rw [evq.1, evq.2]
    exact decide_eq_true rfl
  · unfold equivW
    rw [if_pos exA_w, exA'_w]
theorem exA_s : schedZ exA [1, 0] = [0, 1] ∧ schedW exA [1, 0] = 0 ∧ schedZ exA [0, 0] = [] ∧ schedW exA [0, 0] = 2 := by
  have h1 : orderOk [1, 0] exA.length = true := by decide +kernel
  have h2 : orderOk [0, 0] exA.length = false := by decide +kernel
  unfold schedZ schedW
  rw [h1, h2]
  exact ⟨rfl, rfl, rfl, rfl⟩
theorem exOk {es : List Ev} (h : (es.all fun e => decide (-9223372036854775808 ≤ e.th ∧ e.th ≤ 9223372036854775807 ∧ -9223372036854775808 ≤ e.kd ∧ e.kd ≤ 9223372036854775807 ∧ -9223372036854775808 ≤ e.ob ∧ e.ob ≤ 9223372036854775807)) = true) : ∀ x ∈ es, x.ok := fun x hx => by
  have := of_decide_eq_true (List.all_eq_true.1 h x hx)
  exact ⟨⟨this.1, this.2.1⟩, ⟨this.2.2.1, this.2.2.2.1⟩, ⟨this.2.2.2.2.1, this.2.2.2.2.2⟩⟩
theorem at_new {t : TypeId} {cs : List Value} {k : Nat} (w : World) (hk : w.heap.size = k) : At t (w.alloc (.cells cs.toArray t)) k cs := by
  subst hk
  exact heap_new w _

set_option maxRecDepth 100000 in
set_option maxHeartbeats 3200000 in
theorem form_ok (HL : LeT 10) (HV : LvT 12) (es : List Ev) (xs : List Int) (rows : List (List Int)) (m k : Nat) (a b d : Option Addr) (c c2 c3 : Nat) (w : World) (hE : RowEv w a es) (hok : ∀ x ∈ es, x.ok) (h1 : RowI w b xs) (h2 : RowII w d rows) (hm : es.length = m) (hx : xs.length = m) (hk : rows.length = k)
    (hw : wrongZ es 2 = 0) (hl : leastZ es 2 = xs) (hv : levelsZ es 2 = rows) (hc : m ≤ c) (hc2 : m ≤ c2) (hc3 : k ≤ c3) (hm2 : m ≤ 1024) (hk2 : k ≤ 1024) :
    Calls Try.prog 24 #[.slice a m c, .slice b m c2, .slice d k c3] w fun r w' => r = .returned (.bool true) ∧ Below w.heap.size w w' := by
  have HT : Hid (∀ u v, Below w.heap.size w u → Below u.heap.size u v → Below w.heap.size w v) := fun u v h1 h2 => h1.trans (h2.mono h1.size)
  have H1 : Hid (∀ u, Below w.heap.size w u → Calls Try.prog 10 #[.slice a m c, .int .i64 2] u fun r w' => ∃ ap cp, r = .returned (.tuple #[.slice ap m cp, .int .i64 0]) ∧ m ≤ cp ∧ Hid (RowI w' ap xs) ∧ Below u.heap.size u w') := fun u hu => by
    have := HL es 2 a c u (hE.below hu) hok (by omega) (by omega)
    rw [hm, hw, hl, hx] at this
    exact this
  have H2 : Hid (∀ u, Below w.heap.size w u → Calls Try.prog 12 #[.slice a m c, .int .i64 2] u fun r w' => ∃ ap cp, r = .returned (.tuple #[.slice ap k cp, .int .i64 0]) ∧ k ≤ cp ∧ Hid (RowII w' ap rows) ∧ Below u.heap.size u w') := fun u hu => by
    have := HV es 2 a c u (hE.below hu) hok (by omega) (by omega)
    rw [hm, hw, hv, hk] at this
    exact this
  have H3 : Hid (∀ u ap cp, Below w.heap.size w u → RowI u ap xs → m ≤ cp → Calls Try.prog 18 #[.slice ap m cp, .slice b m c2] u fun r w' => r = .returned (.bool true) ∧ Below u.heap.size u w') := fun u ap cp hu hr hcp => by
    have := sameInts_any xs xs ap b cp c2 u hr (h1.below hu) (by omega) (by omega) (by omega) (by omega)
    rw [hx, decide_eq_true rfl] at this
    exact this
  have H4 : Hid (∀ u ap cp, Below w.heap.size w u → RowII u ap rows → k ≤ cp → Calls Try.prog 19 #[.slice ap k cp, .slice d k c3] u fun r w' => r = .returned (.bool true) ∧ Below u.heap.size u w') := fun u ap cp hu hr hcp => by
    have := sameLists_any rows rows ap d cp c3 u hr (h2.below hu) (by omega) (by omega) (by omega) (by omega)
    rw [hk, decide_eq_true rfl] at this
    exact this
  clear hE hok h1 h2 hm hx hk hw hl hv HL HV
  go_enter Try.func24, Try.ntmps24
  go_wp2_with (go_at_call 10; refine (H1.out w (Below.refl _ _)).mono ?_; rintro _ w1 ⟨x1, cx, rfl, hcx, hX, hb1⟩; refine Hid.out ?_)
  refine hidU ?_
  have B1 : Hid (Below w.heap.size w w1) := hb1
  clear hb1 H1
  go_wp2_with (go_at_call 12; refine (H2.out w1 B1.out).mono ?_; rintro _ w2 ⟨y1, cy, rfl, hcy, hY, hb2⟩; refine Hid.out ?_)
  refine hidU ?_
  have B2 : Hid (Below w.heap.size w w2) := HT.out _ _ B1.out hb2
  have HX2 : Hid (RowI w2 x1 xs) := hX.out.below hb2
  clear hb2 H2 hX
  go_wp2_with (go_at_call 18; refine (H3.out w2 x1 cx B2.out HX2.out hcx).mono ?_; rintro _ w3 ⟨rfl, hb3⟩; refine Hid.out ?_)
  refine hidU ?_
  have B3 : Hid (Below w.heap.size w w3) := HT.out _ _ B2.out hb3
  have HY3 : Hid (RowII w3 y1 rows) := hY.out.below hb3
  clear hb3 H3 hY
  go_wp2_with (go_at_call 19; refine (H4.out w3 y1 cy B3.out HY3.out hcy).mono ?_; rintro _ w4 ⟨rfl, hb4⟩)
  go_ret
  exact ⟨rfl, HT.out _ _ B3.out hb4⟩
theorem known_A (HL : LeT 10) (HV : LvT 12) (u : World) : Calls Try.prog 24 #[.slice (some ⟨u.heap.size, 0, none⟩) 2 2, .slice (some ⟨u.heap.size + 1, 0, none⟩) 2 2, .slice (some ⟨u.heap.size + 1 + 1 + 1, 0, none⟩) 1 1] ((((u.alloc (.cells #[.int .i64 1, .int .i64 0, .int .i64 0, .int .i64 0, .int .i64 0, .int .i64 0] 50)).alloc (.cells #[.int .i64 1, .int .i64 0] 3)).alloc (.cells #[.int .i64 1, .int .i64 0] 3)).alloc (.cells #[.slice (some ⟨u.heap.size + 1 + 1, 0, none⟩) 2 2] 23)) fun r w' => r = .returned (.bool true) ∧ Below u.heap.size u w' := by
  obtain ⟨u1, h1⟩ : ∃ x, x = u.alloc (.cells #[.int .i64 1, .int .i64 0, .int .i64 0, .int .i64 0, .int .i64 0, .int .i64 0] 50) := ⟨_, rfl⟩
  obtain ⟨u2, h2⟩ : ∃ x, x = u1.alloc (.cells #[.int .i64 1, .int .i64 0] 3) := ⟨_, rfl⟩
  obtain ⟨u3, h3⟩ : ∃ x, x = u2.alloc (.cells #[.int .i64 1, .int .i64 0] 3) := ⟨_, rfl⟩
  obtain ⟨u4, h4⟩ : ∃ x, x = u3.alloc (.cells #[.slice (some ⟨u.heap.size + 1 + 1, 0, none⟩) 2 2] 23) := ⟨_, rfl⟩
  rw [← h1, ← h2, ← h3, ← h4]
  have b1 : Below u.heap.size u u1 := by rw [h1]; exact (Below.refl _ u).alloc (Nat.le_refl _) _
  have s1 : u1.heap.size = u.heap.size + 1 := by rw [h1]; simp
  have b2 : Below u1.heap.size u1 u2 := by rw [h2]; exact (Below.refl _ u1).alloc (Nat.le_refl _) _
  have s2 : u2.heap.size = u.heap.size + 1 + 1 := by rw [h2]; simp [s1]
  have b3 : Below u2.heap.size u2 u3 := by rw [h3]; exact (Below.refl _ u2).alloc (Nat.le_refl _) _
  have s3 : u3.heap.size = u.heap.size + 1 + 1 + 1 := by rw [h3]; simp [s2]
  have b4 : Below u3.heap.size u3 u4 := by rw [h4]; exact (Below.refl _ u3).alloc (Nat.le_refl _) _
  have s4 : u4.heap.size = u.heap.size + 1 + 1 + 1 + 1 := by rw [h4]; simp [s3]
  have B : Below u.heap.size u u4 := (((b1).trans (b2.mono (by omega))).trans (b3.mono (by omega))).trans (b4.mono (by omega))
  have g1 : At 50 u1 u.heap.size (flatE exA) := by rw [h1]; exact at_new u rfl
  have g2 : BlkI u2 (u.heap.size + 1) ([1, 0].map I64) := by rw [h2]; exact at_new (t := 3) u1 s1
  have g3 : BlkI u3 (u.heap.size + 1 + 1) ([1, 0].map I64) := by rw [h3]; exact at_new (t := 3) u2 s2
  have gh : At 23 u4 (u.heap.size + 1 + 1 + 1) [.slice (some ⟨u.heap.size + 1 + 1, 0, none⟩) 2 2] := by rw [h4]; exact at_new u3 s3
  have hR : RowII u4 (some ⟨u.heap.size + 1 + 1 + 1, 0, none⟩) [[1, 0]] := by
    refine .inr ⟨_, 0, rfl, fun i zs hz => ?_⟩
    match i, hz with
    | 0, hz => simp at hz; subst hz; exact ⟨_, 2, gh.cell 0, ((g3).below b4).row_all, by decide, by decide⟩
    | i + 1, hz => simp at hz
  exact (form_ok HL HV exA [1, 0] [[1, 0]] 2 1 (some ⟨u.heap.size, 0, none⟩) (some ⟨u.heap.size + 1, 0, none⟩) (some ⟨u.heap.size + 1 + 1 + 1, 0, none⟩) 2 2 1 u4 (rowEv_of ((((g1).below b2).below b3).below b4)) (exOk (by decide +kernel)) (((g2).below b3).below b4).row_all hR rfl rfl rfl exA_w exA_l exA_v (by decide) (by decide) (by decide) (by decide) (by decide)).mono fun r w' ⟨d1, d2⟩ => ⟨d1, B.trans (d2.mono B.size)⟩
theorem known_B (HL : LeT 10) (HV : LvT 12) (u : World) : Calls Try.prog 24 #[.slice (some ⟨u.heap.size, 0, none⟩) 3 3, .slice (some ⟨u.heap.size + 1, 0, none⟩) 3 3, .slice (some ⟨u.heap.size + 1 + 1 + 1 + 1, 0, none⟩) 2 2] (((((u.alloc (.cells #[.int .i64 1, .int .i64 2, .int .i64 0, .int .i64 0, .int .i64 1, .int .i64 0, .int .i64 1, .int .i64 0, .int .i64 0] 50)).alloc (.cells #[.int .i64 0, .int .i64 1, .int .i64 2] 3)).alloc (.cells #[.int .i64 0] 3)).alloc (.cells #[.int .i64 1, .int .i64 2] 3)).alloc (.cells #[.slice (some ⟨u.heap.size + 1 + 1, 0, none⟩) 1 1, .slice (some ⟨u.heap.size + 1 + 1 + 1, 0, none⟩) 2 2] 23)) fun r w' => r = .returned (.bool true) ∧ Below u.heap.size u w' := by
  obtain ⟨u1, h1⟩ : ∃ x, x = u.alloc (.cells #[.int .i64 1, .int .i64 2, .int .i64 0, .int .i64 0, .int .i64 1, .int .i64 0, .int .i64 1, .int .i64 0, .int .i64 0] 50) := ⟨_, rfl⟩
  obtain ⟨u2, h2⟩ : ∃ x, x = u1.alloc (.cells #[.int .i64 0, .int .i64 1, .int .i64 2] 3) := ⟨_, rfl⟩
  obtain ⟨u3, h3⟩ : ∃ x, x = u2.alloc (.cells #[.int .i64 0] 3) := ⟨_, rfl⟩
  obtain ⟨u4, h4⟩ : ∃ x, x = u3.alloc (.cells #[.int .i64 1, .int .i64 2] 3) := ⟨_, rfl⟩
  obtain ⟨u5, h5⟩ : ∃ x, x = u4.alloc (.cells #[.slice (some ⟨u.heap.size + 1 + 1, 0, none⟩) 1 1, .slice (some ⟨u.heap.size + 1 + 1 + 1, 0, none⟩) 2 2] 23) := ⟨_, rfl⟩
  rw [← h1, ← h2, ← h3, ← h4, ← h5]
  have b1 : Below u.heap.size u u1 := by rw [h1]; exact (Below.refl _ u).alloc (Nat.le_refl _) _
  have s1 : u1.heap.size = u.heap.size + 1 := by rw [h1]; simp
  have b2 : Below u1.heap.size u1 u2 := by rw [h2]; exact (Below.refl _ u1).alloc (Nat.le_refl _) _
  have s2 : u2.heap.size = u.heap.size + 1 + 1 := by rw [h2]; simp [s1]
  have b3 : Below u2.heap.size u2 u3 := by rw [h3]; exact (Below.refl _ u2).alloc (Nat.le_refl _) _
  have s3 : u3.heap.size = u.heap.size + 1 + 1 + 1 := by rw [h3]; simp [s2]
  have b4 : Below u3.heap.size u3 u4 := by rw [h4]; exact (Below.refl _ u3).alloc (Nat.le_refl _) _
  have s4 : u4.heap.size = u.heap.size + 1 + 1 + 1 + 1 := by rw [h4]; simp [s3]
  have b5 : Below u4.heap.size u4 u5 := by rw [h5]; exact (Below.refl _ u4).alloc (Nat.le_refl _) _
  have s5 : u5.heap.size = u.heap.size + 1 + 1 + 1 + 1 + 1 := by rw [h5]; simp [s4]
  have B : Below u.heap.size u u5 := ((((b1).trans (b2.mono (by omega))).trans (b3.mono (by omega))).trans (b4.mono (by omega))).trans (b5.mono (by omega))
  have g1 : At 50 u1 u.heap.size (flatE exB) := by rw [h1]; exact at_new u rfl
  have g2 : BlkI u2 (u.heap.size + 1) ([0, 1, 2].map I64) := by rw [h2]; exact at_new (t := 3) u1 s1
  have g3 : BlkI u3 (u.heap.size + 1 + 1) ([0].map I64) := by rw [h3]; exact at_new (t := 3) u2 s2
  have g4 : BlkI u4 (u.heap.size + 1 + 1 + 1) ([1, 2].map I64) := by rw [h4]; exact at_new (t := 3) u3 s3
  have gh : At 23 u5 (u.heap.size + 1 + 1 + 1 + 1) [.slice (some ⟨u.heap.size + 1 + 1, 0, none⟩) 1 1, .slice (some ⟨u.heap.size + 1 + 1 + 1, 0, none⟩) 2 2] := by rw [h5]; exact at_new u4 s4
  have hR : RowII u5 (some ⟨u.heap.size + 1 + 1 + 1 + 1, 0, none⟩) [[0], [1, 2]] := by
    refine .inr ⟨_, 0, rfl, fun i zs hz => ?_⟩
    match i, hz with
    | 0, hz => simp at hz; subst hz; exact ⟨_, 1, gh.cell 0, (((g3).below b4).below b5).row_all, by decide, by decide⟩
    | 1, hz => simp at hz; subst hz; exact ⟨_, 2, gh.cell 1, ((g4).below b5).row_all, by decide, by decide⟩
    | i + 2, hz => simp at hz
  exact (form_ok HL HV exB [0, 1, 2] [[0], [1, 2]] 3 2 (some ⟨u.heap.size, 0, none⟩) (some ⟨u.heap.size + 1, 0, none⟩) (some ⟨u.heap.size + 1 + 1 + 1 + 1, 0, none⟩) 3 3 2 u5 (rowEv_of (((((g1).below b2).below b3).below b4).below b5)) (exOk (by decide +kernel)) ((((g2).below b3).below b4).below b5).row_all hR rfl rfl rfl exB_w exB_l exB_v (by decide) (by decide) (by decide) (by decide) (by decide)).mono fun r w' ⟨d1, d2⟩ => ⟨d1, B.trans (d2.mono B.size)⟩
theorem known_C (HL : LeT 10) (HV : LvT 12) (u : World) : Calls Try.prog 24 #[.slice (some ⟨u.heap.size, 0, none⟩) 3 3, .slice (some ⟨u.heap.size + 1, 0, none⟩) 3 3, .slice (some ⟨u.heap.size + 1 + 1 + 1 + 1, 0, none⟩) 2 2] (((((u.alloc (.cells #[.int .i64 1, .int .i64 3, .int .i64 0, .int .i64 0, .int .i64 2, .int .i64 0, .int .i64 1, .int .i64 4, .int .i64 0] 50)).alloc (.cells #[.int .i64 1, .int .i64 0, .int .i64 2] 3)).alloc (.cells #[.int .i64 1, .int .i64 0] 3)).alloc (.cells #[.int .i64 2] 3)).alloc (.cells #[.slice (some ⟨u.heap.size + 1 + 1, 0, none⟩) 2 2, .slice (some ⟨u.heap.size + 1 + 1 + 1, 0, none⟩) 1 1] 23)) fun r w' => r = .returned (.bool true) ∧ Below u.heap.size u w' := by
  obtain ⟨u1, h1⟩ : ∃ x, x = u.alloc (.cells #[.int .i64 1, .int .i64 3, .int .i64 0, .int .i64 0, .int .i64 2, .int .i64 0, .int .i64 1, .int .i64 4, .int .i64 0] 50) := ⟨_, rfl⟩
  obtain ⟨u2, h2⟩ : ∃ x, x = u1.alloc (.cells #[.int .i64 1, .int .i64 0, .int .i64 2] 3) := ⟨_, rfl⟩
  obtain ⟨u3, h3⟩ : ∃ x, x = u2.alloc (.cells #[.int .i64 1, .int .i64 0] 3) := ⟨_, rfl⟩
  obtain ⟨u4, h4⟩ : ∃ x, x = u3.alloc (.cells #[.int .i64 2] 3) := ⟨_, rfl⟩
  obtain ⟨u5, h5⟩ : ∃ x, x = u4.alloc (.cells #[.slice (some ⟨u.heap.size + 1 + 1, 0, none⟩) 2 2, .slice (some ⟨u.heap.size + 1 + 1 + 1, 0, none⟩) 1 1] 23) := ⟨_, rfl⟩
  rw [← h1, ← h2, ← h3, ← h4, ← h5]
  have b1 : Below u.heap.size u u1 := by rw [h1]; exact (Below.refl _ u).alloc (Nat.le_refl _) _
  have s1 : u1.heap.size = u.heap.size + 1 := by rw [h1]; simp
  have b2 : Below u1.heap.size u1 u2 := by rw [h2]; exact (Below.refl _ u1).alloc (Nat.le_refl _) _
  have s2 : u2.heap.size = u.heap.size + 1 + 1 := by rw [h2]; simp [s1]
  have b3 : Below u2.heap.size u2 u3 := by rw [h3]; exact (Below.refl _ u2).alloc (Nat.le_refl _) _
  have s3 : u3.heap.size = u.heap.size + 1 + 1 + 1 := by rw [h3]; simp [s2]
  have b4 : Below u3.heap.size u3 u4 := by rw [h4]; exact (Below.refl _ u3).alloc (Nat.le_refl _) _
  have s4 : u4.heap.size = u.heap.size + 1 + 1 + 1 + 1 := by rw [h4]; simp [s3]
  have b5 : Below u4.heap.size u4 u5 := by rw [h5]; exact (Below.refl _ u4).alloc (Nat.le_refl _) _
  have s5 : u5.heap.size = u.heap.size + 1 + 1 + 1 + 1 + 1 := by rw [h5]; simp [s4]
  have B : Below u.heap.size u u5 := ((((b1).trans (b2.mono (by omega))).trans (b3.mono (by omega))).trans (b4.mono (by omega))).trans (b5.mono (by omega))
  have g1 : At 50 u1 u.heap.size (flatE exC) := by rw [h1]; exact at_new u rfl
  have g2 : BlkI u2 (u.heap.size + 1) ([1, 0, 2].map I64) := by rw [h2]; exact at_new (t := 3) u1 s1
  have g3 : BlkI u3 (u.heap.size + 1 + 1) ([1, 0].map I64) := by rw [h3]; exact at_new (t := 3) u2 s2
  have g4 : BlkI u4 (u.heap.size + 1 + 1 + 1) ([2].map I64) := by rw [h4]; exact at_new (t := 3) u3 s3
  have gh : At 23 u5 (u.heap.size + 1 + 1 + 1 + 1) [.slice (some ⟨u.heap.size + 1 + 1, 0, none⟩) 2 2, .slice (some ⟨u.heap.size + 1 + 1 + 1, 0, none⟩) 1 1] := by rw [h5]; exact at_new u4 s4
  have hR : RowII u5 (some ⟨u.heap.size + 1 + 1 + 1 + 1, 0, none⟩) [[1, 0], [2]] := by
    refine .inr ⟨_, 0, rfl, fun i zs hz => ?_⟩
    match i, hz with
    | 0, hz => simp at hz; subst hz; exact ⟨_, 2, gh.cell 0, (((g3).below b4).below b5).row_all, by decide, by decide⟩
    | 1, hz => simp at hz; subst hz; exact ⟨_, 1, gh.cell 1, ((g4).below b5).row_all, by decide, by decide⟩
    | i + 2, hz => simp at hz
  exact (form_ok HL HV exC [1, 0, 2] [[1, 0], [2]] 3 2 (some ⟨u.heap.size, 0, none⟩) (some ⟨u.heap.size + 1, 0, none⟩) (some ⟨u.heap.size + 1 + 1 + 1 + 1, 0, none⟩) 3 3 2 u5 (rowEv_of (((((g1).below b2).below b3).below b4).below b5)) (exOk (by decide +kernel)) ((((g2).below b3).below b4).below b5).row_all hR rfl rfl rfl exC_w exC_l exC_v (by decide) (by decide) (by decide) (by decide) (by decide)).mono fun r w' ⟨d1, d2⟩ => ⟨d1, B.trans (d2.mono B.size)⟩

set_option maxRecDepth 100000 in
set_option maxHeartbeats 3200000 in
theorem awake_of (HL : LeT 10) (HV : LvT 12) (w : World) : Calls Try.prog 23 #[] w fun r w' => r = .returned (.bool true) ∧ Below w.heap.size w w' := by
  have HC := known_A HL HV w
  clear HL HV
  go_enter Try.func23, Try.ntmps23
  go_wp2_with (go_at_call 24; refine HC.mono ?_; rintro _ w1 ⟨rfl, hb1⟩)
  go_ret
  exact ⟨rfl, hb1⟩
theorem known_eq (HE : EqT 14) (u : World) : Calls Try.prog 14 #[.slice (some ⟨u.heap.size, 0, none⟩) 2 2, .slice (some ⟨u.heap.size + 1, 0, none⟩) 2 2, .int .i64 2] ((u.alloc (.cells #[.int .i64 1, .int .i64 0, .int .i64 0, .int .i64 0, .int .i64 0, .int .i64 0] 50)).alloc (.cells #[.int .i64 0, .int .i64 0, .int .i64 0, .int .i64 1, .int .i64 0, .int .i64 0] 50)) fun r w' => r = .returned (.tuple #[.bool true, .int .i64 0]) ∧ At 50 w' u.heap.size (flatE exA) ∧ Below u.heap.size u w' := by
  obtain ⟨u1, h1⟩ : ∃ x, x = u.alloc (.cells #[.int .i64 1, .int .i64 0, .int .i64 0, .int .i64 0, .int .i64 0, .int .i64 0] 50) := ⟨_, rfl⟩
  obtain ⟨u2, h2⟩ : ∃ x, x = u1.alloc (.cells #[.int .i64 0, .int .i64 0, .int .i64 0, .int .i64 1, .int .i64 0, .int .i64 0] 50) := ⟨_, rfl⟩
  rw [← h1, ← h2]
  have b1 : Below u.heap.size u u1 := by rw [h1]; exact (Below.refl _ u).alloc (Nat.le_refl _) _
  have b2 : Below u1.heap.size u1 u2 := by rw [h2]; exact (Below.refl _ u1).alloc (Nat.le_refl _) _
  have s1 : u1.heap.size = u.heap.size + 1 := by rw [h1]; simp
  have g1 : At 50 u1 u.heap.size (flatE exA) := by rw [h1]; exact at_new u rfl
  have g2 : At 50 u2 (u.heap.size + 1) (flatE exA') := by rw [h2]; exact at_new u1 s1
  have B : Below u.heap.size u u2 := b1.trans (b2.mono (by omega))
  have := HE exA exA' 2 (some ⟨u.heap.size, 0, none⟩) (some ⟨u.heap.size + 1, 0, none⟩) 2 2 u2 (rowEv_of (g1.below b2)) (rowEv_of g2) (exOk (by decide +kernel)) (exOk (by decide +kernel)) (by decide) (by decide) (by decide) (by decide)
  rw [exA_e.1, exA_e.2] at this
  exact this.mono fun r w' ⟨d1, d2⟩ => ⟨d1, (g1.below b2).below d2, B.trans (d2.mono B.size)⟩
theorem known_s (HS : ScT 16) (u : World) (g : Nat) (x y : Int) (hx : i64 x) (hy : i64 y) (hA : At 50 u g (flatE exA)) : Calls Try.prog 16 #[.slice (some ⟨g, 0, none⟩) 2 2, .slice (some ⟨u.heap.size, 0, none⟩) 2 2] (u.alloc (.cells #[.int .i64 x, .int .i64 y] 3)) fun r w' => ∃ ap cp, r = .returned (.tuple #[.slice ap (schedZ exA [x, y]).length cp, .int .i64 (schedW exA [x, y])]) ∧ (schedZ exA [x, y]).length ≤ cp ∧ RowI w' ap (schedZ exA [x, y]) ∧ Below u.heap.size u w' := by
  obtain ⟨u1, h1⟩ : ∃ x', x' = u.alloc (.cells #[.int .i64 x, .int .i64 y] 3) := ⟨_, rfl⟩
  rw [← h1]
  have b1 : Below u.heap.size u u1 := by rw [h1]; exact (Below.refl _ u).alloc (Nat.le_refl _) _
  have g1 : BlkI u1 u.heap.size ([x, y].map I64) := by rw [h1]; exact at_new (t := 3) u rfl
  have := HS exA [x, y] (some ⟨g, 0, none⟩) (some ⟨u.heap.size, 0, none⟩) 2 2 u1 (rowEv_of (hA.below b1)) (exOk (by decide +kernel)) g1.row_all (fun z hz => by simp at hz; rcases hz with rfl | rfl <;> assumption) (by decide) (by simp) (by decide) (by simp)
  exact this.mono fun r w' ⟨ap, cp, d1, d2, d3, d4⟩ => ⟨ap, cp, d1, d2, d3, b1.trans (d4.mono b1.size)⟩
theorem known_i (u : World) (a : Option Addr) (c : Nat) (hr : RowI u a [0, 1]) (hc : 2 ≤ c) : Calls Try.prog 18 #[.slice a 2 c, .slice (some ⟨u.heap.size, 0, none⟩) 2 2] (u.alloc (.cells #[.int .i64 0, .int .i64 1] 3)) fun r w' => r = .returned (.bool true) ∧ Below u.heap.size u w' := by
  have g1 : BlkI (u.alloc (.cells #[.int .i64 0, .int .i64 1] 3)) u.heap.size ([0, 1].map I64) := heap_new u _
  have hb : Below u.heap.size u (u.alloc (.cells #[.int .i64 0, .int .i64 1] 3)) := (Below.refl _ u).alloc (Nat.le_refl _) _
  exact (sameInts_any [0, 1] [0, 1] a (some ⟨u.heap.size, 0, none⟩) c 2 _ (hr.below hb) g1.row_all (by decide) (by decide) hc (by decide)).mono fun r w' ⟨d1, d2⟩ => ⟨by rw [d1]; rfl, hb.trans (d2.mono hb.size)⟩
set_option maxRecDepth 100000 in
set_option maxHeartbeats 6400000 in
theorem known_of (HL : LeT 10) (HV : LvT 12) (HE : EqT 14) (HS : ScT 16) : KnownOk := fun w => by
  have HA := awake_of HL HV
  have K1 := known_eq HE w
  have K2 : ∀ u g, At 50 u g (flatE exA) → Calls Try.prog 16 #[.slice (some ⟨g, 0, none⟩) 2 2, .slice (some ⟨u.heap.size, 0, none⟩) 2 2] (u.alloc (.cells #[.int .i64 1, .int .i64 0] 3)) fun r w' => ∃ ap cp, r = .returned (.tuple #[.slice ap 2 cp, .int .i64 0]) ∧ 2 ≤ cp ∧ RowI w' ap [0, 1] ∧ Below u.heap.size u w' := fun u g hA => by
    have := known_s HS u g 1 0 ⟨by decide, by decide⟩ ⟨by decide, by decide⟩ hA
    rw [exA_s.1, exA_s.2.1] at this
    exact this
  have K3 : ∀ u g, At 50 u g (flatE exA) → Calls Try.prog 16 #[.slice (some ⟨g, 0, none⟩) 2 2, .slice (some ⟨u.heap.size, 0, none⟩) 2 2] (u.alloc (.cells #[.int .i64 0, .int .i64 0] 3)) fun r w' => ∃ ap cp, r = .returned (.tuple #[.slice ap 0 cp, .int .i64 2]) ∧ Below u.heap.size u w' := fun u g hA => by
    have := known_s HS u g 0 0 ⟨by decide, by decide⟩ ⟨by decide, by decide⟩ hA
    rw [exA_s.2.2.1, exA_s.2.2.2] at this
    exact this.mono fun r w' ⟨ap, cp, d1, d2, d3, d4⟩ => ⟨ap, cp, d1, d4⟩
  have K4 := known_B HL HV
  have K5 := known_C HL HV
  clear HL HV HE HS
  have HT : Hid (∀ u v, Below w.heap.size w u → Below u.heap.size u v → Below w.heap.size w v) := fun u v h1 h2 => h1.trans (h2.mono h1.size)
  obtain ⟨g, hg⟩ : ∃ g, Hid (g = w.heap.size) := ⟨_, (rfl : _ = w.heap.size)⟩
  go_enter Try.func4, Try.ntmps4
  go_wp2_with (go_at_call 14; refine K1.mono ?_; rintro _ w2 ⟨rfl, hA2, hb2⟩; refine Hid.out ?_)
  refine hidU ?_
  rw [← hg.out] at hA2
  rw [← hg.out]
  have B2 : Hid (Below w.heap.size w w2) := hb2
  have A2 : Hid (At 50 w2 g (flatE exA)) := hA2
  clear hb2 hA2 K1
  go_wp2_with (go_at_call 16; refine (K2 w2 g A2.out).mono ?_; rintro _ w3 ⟨ap, cp, rfl, hcp, hr3, hb3⟩; refine Hid.out ?_)
  refine hidU ?_
  have B3 : Hid (Below w.heap.size w w3) := HT.out _ _ B2.out hb3
  have A3 : Hid (At 50 w3 g (flatE exA)) := A2.out.below hb3
  have I3 : Hid (RowI w3 ap [0, 1]) := hr3
  clear hb3 hr3 K2 B2 A2
  go_wp2_with (go_at_call 16; refine (K3 w3 g A3.out).mono ?_; rintro _ w4 ⟨ap4, cp4, rfl, hb4⟩; refine Hid.out ?_)
  refine hidU ?_
  have B4 : Hid (Below w.heap.size w w4) := HT.out _ _ B3.out hb4
  have I4 : Hid (RowI w4 ap [0, 1]) := I3.out.below hb4
  clear hb4 K3 B3 A3 I3
  go_wp2_with (go_at_call 23; refine (HA w4).mono ?_; rintro _ w5 ⟨rfl, hb5⟩; refine Hid.out ?_)
  refine hidU ?_
  have B5 : Hid (Below w.heap.size w w5) := HT.out _ _ B4.out hb5
  have I5 : Hid (RowI w5 ap [0, 1]) := I4.out.below hb5
  clear hb5 HA B4 I4
  go_wp2_with (go_at_call 24; refine (K4 w5).mono ?_; rintro _ w6 ⟨rfl, hb6⟩; refine Hid.out ?_)
  refine hidU ?_
  have B6 : Hid (Below w.heap.size w w6) := HT.out _ _ B5.out hb6
  have I6 : Hid (RowI w6 ap [0, 1]) := I5.out.below hb6
  clear hb6 K4 B5 I5
  go_wp2_with (go_at_call 24; refine (K5 w6).mono ?_; rintro _ w7 ⟨rfl, hb7⟩; refine Hid.out ?_)
  refine hidU ?_
  have B7 : Hid (Below w.heap.size w w7) := HT.out _ _ B6.out hb7
  have I7 : Hid (RowI w7 ap [0, 1]) := I6.out.below hb7
  clear hb7 K5 B6 I6
  go_wp2_with (go_at_call 18; refine (known_i w7 ap cp I7.out hcp).mono ?_; rintro _ w8 ⟨rfl, hb8⟩)
  go_ret
  exact ⟨rfl, HT.out _ _ B7.out hb8⟩
end Go.Proofs.Ytbamocalhojmeaa
