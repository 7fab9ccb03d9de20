/- The reckoner: part EvD12. -/
import Derived.Test.YthgjjogleklmcaaGreatDoorEvD11
namespace Go.Proofs.YthgjjogleklmcaaGreatDoor.Ev
open Go.RowKit
set_option linter.unusedVariables false

theorem getD_set {l : Array Bool} {i j : Nat} (hi : i < l.size) : (l.setIfInBounds i true).getD j false = if i = j then true else l.getD j false := by
  simp only [Array.getD_eq_getD_getElem?, Array.getElem?_setIfInBounds]
  by_cases h : i = j
  · subst h; simp [hi]
  · simp [h]
theorem nA_inj {R : List Rec} {i j : Nat} {c c' : Rec} (hc : R[i]? = some c) (ha : c.act = true) (hc' : R[j]? = some c') (ha' : c'.act = true) (h : nA R i = nA R j) : i = j := by
  rcases Nat.lt_trichotomy i j with q | q | q
  · have h1 := nA_succ hc
    rw [if_pos ha] at h1
    have := nA_mono R (i := i + 1) (j := j) q
    omega
  · exact q
  · have h1 := nA_succ hc'
    rw [if_pos ha'] at h1
    have := nA_mono R (i := j + 1) (j := i) q
    omega
theorem nA_lt {R : List Rec} {i : Nat} {c : Rec} (hc : R[i]? = some c) (ha : c.act = true) : nA R i < nA R R.length := by
  have h1 := nA_succ hc
  rw [if_pos ha] at h1
  have := nA_mono R (i := i + 1) (j := R.length) (List.getElem?_eq_some_iff.1 hc).1
  omega
theorem act_idx {R : List Rec} {q : Nat} (h : q < nA R R.length) : ∃ j c, R[j]? = some c ∧ c.act = true ∧ nA R j = q := by
  have hl : (actsOf R 0).length = nA R R.length := acts_len
  obtain ⟨a, ha⟩ : ∃ a, (actsOf R 0)[q]? = some a := ⟨_, List.getElem?_eq_getElem (by omega)⟩
  obtain ⟨j, c, _, h2, h3, h4⟩ := acts_at ha
  exact ⟨j, c, h2, h3, h4⟩
section
variable {P : Tb} {w0 : Base} {E0 E E' : Env} {all : Array Oper} {R : List Rec} {HS : List St} {LF : Ls} {s sF : Lc} {HF Hk H1 : St} {pm : List Nat} {w w' : World} {k : Nat} {listed : Array Bool} {i : Nat} {c : Rec}
theorem Ctx.stepH (C : Ctx P all R HS LF s sF HF pm) {i : Nat} {c : Rec} (hc : R[i]? = some c) (ha : c.act = true) : ∃ Hi H1, HS[nA R i]? = some Hi ∧ HS[nA R i + 1]? = some H1 ∧ Hi.next ≤ H1.next := by
  obtain ⟨⟨Li, si, Hi, H1, hD, h1, h2, _⟩, _⟩ := C.step i c hc
  rcases hD with ⟨_, h, _⟩ | ⟨_, h, _⟩ | ⟨_, _, _, _, h, _⟩
  · rw [ha] at h; cases h
  · rw [ha] at h; cases h
  · exact ⟨Hi, H1, h1, h2 ha, h⟩
theorem Ctx.mono (C : Ctx P all R HS LF s sF HF pm) {q : Nat} {Hq : St} (h1 : HS[q]? = some Hq) : ∀ (d : Nat) {Hr : St}, HS[q + d]? = some Hr → Hq.next ≤ Hr.next
  | 0, Hr, h => by rw [Nat.add_zero, h1] at h; cases h; exact Nat.le_refl _
  | d + 1, Hr, h => by
    have hl := (List.getElem?_eq_some_iff.1 h).1
    rw [C.len] at hl
    obtain ⟨j, c, g1, g2, g3⟩ := act_idx (R := R) (q := q + d) (by omega)
    obtain ⟨Hi, H1, g4, g5, g6⟩ := C.stepH g1 g2
    rw [g3] at g4 g5
    rw [show q + (d + 1) = q + d + 1 by omega, g5] at h
    cases h
    exact Nat.le_trans (C.mono h1 d g4) g6
theorem Ctx.mono' (C : Ctx P all R HS LF s sF HF pm) {q r : Nat} {Hq Hr : St} (h1 : HS[q]? = some Hq) (h2 : HS[r]? = some Hr) (h : q ≤ r) : Hq.next ≤ Hr.next := by
  obtain ⟨d, rfl⟩ : ∃ d, r = q + d := ⟨r - q, by omega⟩
  exact C.mono h1 d h2

/-- a block of noughts that was made ahead of its place -/
structure FlAt (P : Tb) (w0 : Base) (R : List Rec) (HS : List St) (E : Env) (Hk : St) (w : World) (j : Nat) (c : Rec) : Prop where
  flo : floatO P c.o = true
  ex : ∃ Hj e zs B o, HS[nA R j]? = some Hj ∧ HS[nA R j + 1]? = some (newCells Hj e zs false false) ∧ E.bl Hj.next = some B ∧ w.heap[B]? = some o ∧
    (∀ E' b, BlkR P.P E' b (mkCells e zs zs.length (depthOf zs.length) false false) o) ∧ w0.w.heap.size ≤ B ∧ ∀ b k', Hk.tr.get b = some k' → E.bl b ≠ some B
/-- how far the heap has come: all that acts up to a place, and blocks of noughts from behind it -/
structure HInv (P : Tb) (w0 : Base) (E0 : Env) (R : List Rec) (HS : List St) (HF : St) (E : Env) (k : Nat) (Hk : St) (listed : Array Bool) (w : World) : Prop where
  at_ : HS[k]? = some Hk
  le : E0.le (E.cut Hk.next)
  rep : Rep P.P w0 (E.cut Hk.next) Hk w
  fl : ∀ b B, Hk.next ≤ b → E.bl b = some B → ∃ j c Hj, R[j]? = some c ∧ c.act = true ∧ listed.getD j false = true ∧ k ≤ nA R j ∧ HS[nA R j]? = some Hj ∧ b = Hj.next
  inj : ∀ b b' B, Hk.next ≤ b → Hk.next ≤ b' → E.bl b = some B → E.bl b' = some B → b = b'
  fls : ∀ (j : Nat) (c : Rec), R[j]? = some c → c.act = true → listed.getD j false = true → k ≤ nA R j → FlAt P w0 R HS E Hk w j c
  acts : ∀ (j : Nat) (c : Rec), R[j]? = some c → c.act = true → nA R j < k → listed.getD j false = true
  top : ∀ b, HF.next ≤ b → E.bl b = none
  kle : k ≤ nA R R.length

theorem HInv.kF (C : Ctx P all R HS LF s sF HF pm) (I : HInv P w0 E0 R HS HF E k Hk listed w) : Hk.next ≤ HF.next := C.mono' I.at_ C.HFat I.kle
/-- the blocks made ahead -/
def HInv.G (I : HInv P w0 E0 R HS HF E k Hk listed w) (B : Nat) : Prop := ∃ b, Hk.next ≤ b ∧ E.bl b = some B
theorem HInv.g_data (I : HInv P w0 E0 R HS HF E k Hk listed w) {B : Nat} (h : I.G B) : (∃ o, w.heap[B]? = some o) ∧ ∀ b k', Hk.tr.get b = some k' → E.bl b ≠ some B := by
  obtain ⟨b, h1, h2⟩ := h
  obtain ⟨j, c, Hj, g1, g2, g3, g4, g5, rfl⟩ := I.fl b B h1 h2
  obtain ⟨Hj', e, zs, B', o, f1, f2, f3, f4, f5, f6, f7⟩ := (I.fls j c g1 g2 g3 g4).ex
  rw [g5] at f1; cases f1
  rw [h2] at f3; cases f3
  exact ⟨⟨o, f4⟩, f7⟩
theorem HInv.g_lt (I : HInv P w0 E0 R HS HF E k Hk listed w) : ∀ B, I.G B → B < w.heap.size := fun B h => by
  obtain ⟨⟨o, ho⟩, _⟩ := I.g_data h
  exact (Array.getElem?_eq_some_iff.1 ho).1
theorem HInv.base (I : HInv P w0 E0 R HS HF E k Hk listed w) : Rep P.P (w0.at w I.G I.rep.stays.size I.g_lt) (E.cut Hk.next) Hk w :=
  I.rep.at fun b k' B hk hB hG => (I.g_data hG).2 b k' hk (Env.cut_some hB).2
theorem HInv.none_of (C : Ctx P all R HS LF s sF HF pm) (I : HInv P w0 E0 R HS HF E k Hk listed w) (hc : R[i]? = some c) (ha : c.act = true) (hu : listed.getD i false = false) {Hi H1 : St} (hi : HS[nA R i]? = some Hi) (hi1 : HS[nA R i + 1]? = some H1) :
    ∀ b B, Hk.next ≤ b → E.bl b = some B → Hi.next ≤ b → H1.next ≤ b ∧ (∀ e zs, H1 = newCells Hi e zs false false → b ≠ Hi.next) := fun b B h1 h2 h3 => by
  obtain ⟨j, c', Hj, g1, g2, g3, g4, g5, rfl⟩ := I.fl b B h1 h2
  have hne : nA R j ≠ nA R i := fun e => by
    have := nA_inj g1 g2 hc ha e
    subst this
    rw [hu] at g3; cases g3
  obtain ⟨Hj', e', zs', B', o, f1, f2, f3, f4, f5, f6, f7⟩ := (I.fls j c' g1 g2 g3 g4).ex
  rw [g5] at f1; cases f1
  rcases Nat.lt_or_gt_of_ne hne with q | q
  · have := C.mono' f2 hi q
    have h5 : Hj.next + 1 ≤ Hi.next := this
    omega
  · have h4 := C.mono' hi1 g5 q
    refine ⟨h4, fun e zs he hb => ?_⟩
    subst he
    have h5 : Hi.next + 1 ≤ Hj.next := h4
    omega

/-- WHAT ACTS IN ITS TURN -/
theorem HInv.act (C : Ctx P all R HS LF s sF HF pm) (I : HInv P w0 E0 R HS HF E k Hk listed w) (hsz : listed.size = R.length) (hc : R[i]? = some c) (ha : c.act = true) (hk : nA R i = k) (hu : listed.getD i false = false) (hH : HS[k + 1]? = some H1)
    (hE : (E.cut Hk.next).le E') (hR : Rep P.P (w0.at w I.G I.rep.stays.size I.g_lt) E' H1 w') :
    ∃ E2, E.le E2 ∧ E'.le E2 ∧ HInv P w0 E0 R HS HF E2 (k + 1) H1 (listed.setIfInBounds i true) w' := by
  have hil : i < listed.size := by rw [hsz]; exact (List.getElem?_eq_some_iff.1 hc).1
  have hm : Hk.next ≤ H1.next := C.mono' I.at_ hH (Nat.le_succ k)
  have hno : ∀ b, Hk.next ≤ b → b < H1.next → E.bl b = none := fun b h1 h2 => by
    cases hb : E.bl b with
    | none => rfl
    | some B =>
      have := (I.none_of C hc ha hu (by rw [hk]; exact I.at_) (by rw [hk]; exact hH) b B h1 hb h1).1
      omega
  have h1 := Env.join_of hE hm hno
  have h2 : E'.le ((Env.join E' E H1.next).cut H1.next) := Env.le_join hR.fresh
  have hsub : ∀ j, listed.getD j false = true → (listed.setIfInBounds i true).getD j false = true := fun j hj => by
    rw [getD_set hil]; split
    · rfl
    · exact hj
  have hback : ∀ j, i ≠ j → (listed.setIfInBounds i true).getD j false = true → listed.getD j false = true := fun j hj h => by
    rw [getD_set hil, if_neg hj] at h; exact h
  refine ⟨_, h1, h2.trans Env.cut_le, hH, ?_, ?_, ?_, ?_, ?_, ?_, ?_, ?_⟩
  · exact I.le.trans (hE.trans h2)
  · exact (hR.back I.rep.stays).up h2 H1.next fun b hb => Env.cut_ge hb
  · intro b B hb hB
    rw [Env.join_ge hb] at hB
    obtain ⟨j, c', Hj, g1, g2, g3, g4, g5, rfl⟩ := I.fl b B (by omega) hB
    refine ⟨j, c', Hj, g1, g2, hsub j g3, ?_, g5, rfl⟩
    rcases Nat.lt_or_ge k (nA R j) with q | q
    · exact q
    · have e : nA R i = nA R j := by omega
      have := nA_inj hc ha g1 g2 e
      subst this
      rw [hu] at g3; cases g3
  · intro b b' B hb hb' h3 h4
    rw [Env.join_ge hb] at h3
    rw [Env.join_ge hb'] at h4
    exact I.inj b b' B (by omega) (by omega) h3 h4
  · intro j c' g1 g2 g3 g4
    have hij : i ≠ j := fun e => by subst e; omega
    have F := I.fls j c' g1 g2 (hback j hij g3) (by omega)
    obtain ⟨Hj, e, zs, B, o, f1, f2, f3, f4, f5, f6, f7⟩ := F.ex
    have hge : H1.next ≤ Hj.next := C.mono' hH f1 g4
    have hG : I.G B := ⟨Hj.next, by omega, f3⟩
    refine ⟨F.flo, Hj, e, zs, B, o, f1, f2, by rw [Env.join_ge hge]; exact f3, ?_, f5, f6, fun b k' hk' hB => ?_⟩
    · rw [hR.stays.block B (.inr hG)]; exact f4
    · have hlt : b < H1.next := hR.lt hk'
      rw [Env.join_lt hlt] at hB
      exact hR.far b k' B hk' hB (.inr hG)
  · intro j c' g1 g2 g3
    by_cases hij : i = j
    · subst hij; rw [getD_set hil, if_pos rfl]
    · refine hsub j (I.acts j c' g1 g2 ?_)
      rcases Nat.lt_or_ge (nA R j) k with q | q
      · exact q
      · exact absurd (nA_inj hc ha g1 g2 (by omega)) hij
  · intro b hb
    have hl : H1.next ≤ HF.next := C.mono' hH C.HFat (by have := nA_lt hc ha; omega)
    rw [Env.join_ge (by omega)]
    exact I.top b hb
  · have := nA_lt hc ha; omega

/-- A BLOCK OF NOUGHTS IS MADE, wherever its place is -/
theorem HInv.float (C : Ctx P all R HS LF s sF HF pm) (I : HInv P w0 E0 R HS HF E k Hk listed w) (hsz : listed.size = R.length) (hc : R[i]? = some c) (ha : c.act = true) (hu : listed.getD i false = false) (hf : floatO P c.o = true) {Hi : St} {e : TypeId} {zs : List Value}
    (hi : HS[nA R i]? = some Hi) (hi1 : HS[nA R i + 1]? = some (newCells Hi e zs false false)) (hb : Below w.heap.size w w') {B : Nat} {o : Obj} (hB : w.heap.size ≤ B) (ho : w'.heap[B]? = some o)
    (hblk : ∀ E' b, BlkR P.P E' b (mkCells e zs zs.length (depthOf zs.length) false false) o) :
    E.bl Hi.next = none ∧ HInv P w0 E0 R HS HF (E.with Hi.next B 0) k Hk (listed.setIfInBounds i true) w' := by
  have hil : i < listed.size := by rw [hsz]; exact (List.getElem?_eq_some_iff.1 hc).1
  have hki : k ≤ nA R i := by
    rcases Nat.lt_or_ge (nA R i) k with q | q
    · have := I.acts i c hc ha q; rw [hu] at this; cases this
    · exact q
  have hkn : Hk.next ≤ Hi.next := C.mono' I.at_ hi hki
  have hnone : E.bl Hi.next = none := by
    cases hx : E.bl Hi.next with
    | none => rfl
    | some B' => exact absurd rfl ((I.none_of C hc ha hu hi hi1 Hi.next B' hkn hx (Nat.le_refl _)).2 e zs rfl)
  have hle := Env.le_with (E := E) (B := B) (c := 0) hnone
  have hcut : (E.cut Hk.next).le ((E.with Hi.next B 0).cut Hk.next) := Env.cut_up hle
  have hold : ∀ b, b ≠ Hi.next → (E.with Hi.next B 0).bl b = E.bl b := fun b h => Env.with_ne h
  have hsub : ∀ j, listed.getD j false = true → (listed.setIfInBounds i true).getD j false = true := fun j hj => by
    rw [getD_set hil]; split
    · rfl
    · exact hj
  have hback : ∀ j, i ≠ j → (listed.setIfInBounds i true).getD j false = true → listed.getD j false = true := fun j hj h => by
    rw [getD_set hil, if_neg hj] at h; exact h
  have hlt : ∀ b B', E.bl b = some B' → Hk.next ≤ b → B' < w.heap.size := fun b B' h h1 => I.g_lt B' ⟨b, h1, h⟩
  have htr : ∀ b k' B', Hk.tr.get b = some k' → E.bl b = some B' → B' < w.heap.size := fun b k' B' hk' h => by
    obtain ⟨B2, o2, g1, g2, _⟩ := I.rep.blk b k' hk'
    have := (Env.cut_some g1).2
    rw [h] at this; cases this
    exact (Array.getElem?_eq_some_iff.1 g2).1
  refine ⟨hnone, I.at_, I.le.trans hcut, (I.rep.heap hb).up hcut Hk.next fun b hb => Env.cut_ge hb, ?_, ?_, ?_, ?_, ?_, I.kle⟩
  · intro b B' h1 h2
    by_cases hbn : b = Hi.next
    · exact ⟨i, c, Hi, hc, ha, by rw [getD_set hil, if_pos rfl], hki, hi, hbn⟩
    · rw [hold b hbn] at h2
      obtain ⟨j, c', Hj, g1, g2, g3, g4⟩ := I.fl b B' h1 h2
      exact ⟨j, c', Hj, g1, g2, hsub j g3, g4⟩
  · intro b b' B' h1 h1' h2 h2'
    by_cases hbn : b = Hi.next
    · by_cases hbn' : b' = Hi.next
      · rw [hbn, hbn']
      · rw [hold b' hbn'] at h2'
        subst hbn
        rw [Env.with_bl] at h2; cases h2
        have := hlt b' B h2' h1'
        omega
    · rw [hold b hbn] at h2
      by_cases hbn' : b' = Hi.next
      · subst hbn'
        rw [Env.with_bl] at h2'; cases h2'
        have := hlt b B h2 h1
        omega
      · rw [hold b' hbn'] at h2'
        exact I.inj b b' B' h1 h1' h2 h2'
  · intro j c' g1 g2 g3 g4
    by_cases hij : i = j
    · subst hij
      obtain rfl : c = c' := by rw [hc] at g1; exact Option.some.inj g1
      refine ⟨hf, Hi, e, zs, B, o, hi, hi1, Env.with_bl, ho, hblk, Nat.le_trans I.rep.stays.size hB, fun b k' hk' h => ?_⟩
      have hbl : b < Hk.next := I.rep.lt hk'
      rw [hold b (by omega)] at h
      have := htr b k' B hk' h
      omega
    · have F := I.fls j c' g1 g2 (hback j hij g3) g4
      obtain ⟨Hj, e', zs', B', o', f1, f2, f3, f4, f5, f6, f7⟩ := F.ex
      refine ⟨F.flo, Hj, e', zs', B', o', f1, f2, hle.bl _ _ f3, ?_, f5, f6, fun b k' hk' h => ?_⟩
      · rw [hb.block B' (Array.getElem?_eq_some_iff.1 f4).1]; exact f4
      · have hbl : b < Hk.next := I.rep.lt hk'
        rw [hold b (by omega)] at h
        exact f7 b k' hk' h
  · intro j c' g1 g2 g3
    exact hsub j (I.acts j c' g1 g2 g3)
  · intro b hb
    have h1 : Hi.next + 1 ≤ HF.next := C.mono' hi1 C.HFat (by have := nA_lt hc ha; omega)
    rw [hold b (by omega)]
    exact I.top b hb

/-- a block of noughts comes to its place -/
theorem HInv.absorb (C : Ctx P all R HS LF s sF HF pm) (I : HInv P w0 E0 R HS HF E k Hk listed w) (hc : R[i]? = some c) (ha : c.act = true) (hl : listed.getD i false = true) (hk : nA R i = k) : ∃ H', HInv P w0 E0 R HS HF E (k + 1) H' listed w := by
  obtain ⟨Hj, e, zs, B, o, f1, f2, f3, f4, f5, f6, f7⟩ := (I.fls i c hc ha hl (by omega)).ex
  rw [hk] at f1 f2
  rw [I.at_] at f1; cases f1
  have hcm : (E.cut Hk.next).le (E.cut (Hk.next + 1)) := Env.cut_mono (Nat.le_succ _)
  have old : ∀ b k', (newCells Hk e zs false false).tr.get b = some k' → (b = Hk.next ∧ k' = mkCells e zs zs.length (depthOf zs.length) false false) ∨ (b < Hk.next ∧ Hk.tr.get b = some k') := fun b k' hb => by
    rcases BT.get_put _ _ _ _ _ hb with ⟨h1, h2⟩ | ⟨h1, h2⟩
    · exact .inl ⟨h1, by cases h2; rfl⟩
    · exact .inr ⟨I.rep.lt h2, h2⟩
  have hself : (E.cut (Hk.next + 1)).bl Hk.next = some B := by rw [Env.cut_lt (Nat.lt_succ_self _)]; exact f3
  have hse : ∀ {B2}, (E.cut (newCells Hk e zs false false).next).bl Hk.next = some B2 → B = B2 := fun {B2} h => Option.some.inj (hself.symm.trans h)
  have hlo : ∀ {b B'}, b < Hk.next → (E.cut (Hk.next + 1)).bl b = some B' → (E.cut Hk.next).bl b = some B' := fun {b B'} h h1 => by
    rw [Env.cut_lt h]; exact (Env.cut_some h1).2
  have hj' : ∀ {j c'}, R[j]? = some c' → c'.act = true → k ≤ nA R j → nA R j ≠ k → k + 1 ≤ nA R j := fun {j c'} _ _ h1 h2 => by omega
  refine ⟨newCells Hk e zs false false, f2, I.le.trans hcm, ⟨I.rep.stays, ?_, ?_, ?_, ?_, ?_⟩, ?_, ?_, ?_, ?_, I.top, ?_⟩
  · intro b k' hb
    rcases old b k' hb with ⟨rfl, rfl⟩ | ⟨h1, h2⟩
    · exact ⟨B, o, hself, f4, f5 _ _⟩
    · obtain ⟨B2, o2, g1, g2, g3⟩ := I.rep.blk b k' h2
      exact ⟨B2, o2, hcm.bl _ _ g1, g2, g3.mono hcm g1⟩
  · intro b b' k1 k2 B2 hb hb' h1 h2
    rcases old b k1 hb with ⟨rfl, rfl⟩ | ⟨g1, g2⟩ <;> rcases old b' k2 hb' with ⟨rfl, rfl⟩ | ⟨g1', g2'⟩
    · rfl
    · obtain rfl := hse h1
      exact absurd (Env.cut_some h2).2 (f7 b' _ g2')
    · obtain rfl := hse h2
      exact absurd (Env.cut_some h1).2 (f7 b _ g2)
    · exact I.rep.inj _ _ _ _ _ g2 g2' (hlo g1 h1) (hlo g1' h2)
  · intro b k' B2 hb h1
    rcases old b k' hb with ⟨rfl, rfl⟩ | ⟨g1, g2⟩
    · obtain rfl := hse h1
      exact .inr fun hF => absurd (w0.lt _ hF) (Nat.not_lt.2 f6)
    · exact I.rep.own _ _ _ g2 (hlo g1 h1)
  · intro b hb
    exact Env.cut_ge hb
  · intro b k' B2 hb h1
    rcases old b k' hb with ⟨rfl, rfl⟩ | ⟨g1, g2⟩
    · obtain rfl := hse h1
      exact fun hG => absurd (w0.lt _ (w0.gF _ hG)) (Nat.not_lt.2 f6)
    · exact I.rep.far _ _ _ g2 (hlo g1 h1)
  · intro b B' h1 h2
    have h1 : Hk.next + 1 ≤ b := h1
    obtain ⟨j, c', Hj, g1, g2, g3, g4, g5, rfl⟩ := I.fl b B' (by omega) h2
    refine ⟨j, c', Hj, g1, g2, g3, hj' g1 g2 g4 fun q => ?_, g5, rfl⟩
    rw [q, I.at_] at g5; cases g5
    omega
  · intro b b' B' h1 h1' h2 h2'
    have h1 : Hk.next + 1 ≤ b := h1
    have h1' : Hk.next + 1 ≤ b' := h1'
    exact I.inj b b' B' (by omega) (by omega) h2 h2'
  · intro j c' g1 g2 g3 g4
    have F := I.fls j c' g1 g2 g3 (by omega)
    obtain ⟨Hj, e', zs', B', o', q1, q2, q3, q4, q5, q6, q7⟩ := F.ex
    refine ⟨F.flo, Hj, e', zs', B', o', q1, q2, q3, q4, q5, q6, fun b k' hk' h => ?_⟩
    rcases old b k' hk' with ⟨rfl, rfl⟩ | ⟨g5, g6⟩
    · have h5 : Hk.next + 1 ≤ Hj.next := C.mono' f2 q1 g4
      have := I.inj Hk.next Hj.next B' (Nat.le_refl _) (by omega) h q3
      omega
    · exact q7 b k' g6 h
  · intro j c' g1 g2 g3
    rcases Nat.lt_or_ge (nA R j) k with q | q
    · exact I.acts j c' g1 g2 q
    · have := nA_inj hc ha g1 g2 (by omega)
      subst this
      exact hl
  · have := nA_lt hc ha; omega
/-- all that have come to their place are there -/
theorem HInv.norm (C : Ctx P all R HS LF s sF HF pm) : ∀ (d : Nat) {k : Nat} {Hk : St}, HInv P w0 E0 R HS HF E k Hk listed w → nA R R.length - k ≤ d → ∃ k' H', HInv P w0 E0 R HS HF E k' H' listed w ∧ ∀ j c, R[j]? = some c → c.act = true → nA R j = k' → listed.getD j false = false
  | d, k, Hk, I, hd => by
    by_cases h : ∃ j c, R[j]? = some c ∧ c.act = true ∧ nA R j = k ∧ listed.getD j false = true
    · obtain ⟨j, c, h1, h2, h3, h4⟩ := h
      obtain ⟨H', I'⟩ := I.absorb C h1 h2 h4 h3
      have := nA_lt h1 h2
      cases d with
      | zero => omega
      | succ d => exact HInv.norm C d I' (by omega)
    · refine ⟨k, Hk, I, fun j c h1 h2 h3 => ?_⟩
      cases hb : listed.getD j false with
      | false => rfl
      | true => exact absurd ⟨j, c, h1, h2, h3, hb⟩ h
end
end Go.Proofs.YthgjjogleklmcaaGreatDoor.Ev
