/- The reckoner: part EvD9. -/
import Derived.Test.YtahgefpckhighaaGreatDoorEvD8
namespace Go.Proofs.YtahgefpckhighaaGreatDoor.Ev
open Go.RowKit
set_option linter.unusedVariables false

theorem getD_set {l : Array Bool} {i j : Nat} (hi : i < l.size) : (l.setIfInBounds i true).getD j false = if i = j then true else l.getD j false := by
  simp only [Array.getD_eq_getD_getElem?, Array.getElem?_setIfInBounds]
  by_cases h : i = j
  · subst h; simp [hi]
  · simp [h]
section
variable {P : Tb} {w0 : Base} {E0 E E' : Env} {all : Array Oper} {R : List Rec} {HS : List St} {LF : Ls} {s sF : Lc} {HF H' : St} {pm : List Nat} {a0 a : Act} {w w' : World} {k k' : Nat} {listed : Array Bool} {i : Nat} {c : Rec} {cv : Value}

/-- how far some order of the region has come -/
structure DInv (P : Tb) (w0 : Base) (E0 : Env) (R : List Rec) (HS : List St) (pm : List Nat) (s : Lc) (a0 : Act) (E : Env) (k : Nat) (listed : Array Bool) (a : Act) (w : World) : Prop where
  lsz : listed.size = R.length
  le : E0.le E
  rep : ∃ Hk, HS[k]? = some Hk ∧ Rep P.P w0 E Hk w
  size : a.tmps.size = s.N
  glob : ∀ g, g < s.ng → E.bl g = some g
  defs : DefsR P E s.D a.defers
  vals : ∀ (j : Nat) (c : Rec) (t : Tmp), listed.getD j false = true → R[j]? = some c → c.o.dst = some t → VR E c.v (a.tmps.getD t undef)
  rest : ∀ (t : Tmp), (∀ (j : Nat) (c : Rec), R[j]? = some c → c.o.dst ≠ some t) → a.tmps.getD t undef = a0.tmps.getD t undef
  closed : ∀ (j m t : Nat), listed.getD j false = true → pm[j]? = some m → bitAt m t = true → listed.getD t false = true
  acts : ∀ (j : Nat) (c : Rec), R[j]? = some c → c.act = true → (listed.getD j false = true ↔ nA R j < k)
  kle : k ≤ nA R R.length

theorem DInv.next (C : Ctx P all R HS LF s sF HF pm) (I : DInv P w0 E0 R HS pm s a0 E k listed a w) (hc : R[i]? = some c) (hu : listed.getD i false = false) {m : Nat} (hm : pm[i]? = some m) (cl : ∀ t, bitAt m t = true → listed.getD t false = true)
    (hE : E.le E') (hk : k' = k + if c.act = true then 1 else 0) (hk0 : c.act = true → nA R i = k) (hH : HS[k']? = some H') (hR : Rep P.P w0 E' H' w') (hv : VR E' c.v cv) :
    DInv P w0 E0 R HS pm s a0 E' k' (listed.setIfInBounds i true) (a.put c.o.dst cv) w' := by
  have hi : i < R.length := (List.getElem?_eq_some_iff.1 hc).1
  have hil : i < listed.size := by rw [I.lsz]; exact hi
  have hlt := (C.step i c hc).lt
  have hself : ∀ t, c.o.dst = some t → (a.put c.o.dst cv).tmps.getD t undef = cv := fun t ht => by
    have : t < a.tmps.size := by rw [I.size]; exact hlt t ht
    rw [ht]
    simp [Act.put, Array.getD, this]
  have hother : ∀ t, c.o.dst ≠ some t → (a.put c.o.dst cv).tmps.getD t undef = a.tmps.getD t undef := fun t ht => by
    cases hd : c.o.dst with
    | none => rfl
    | some d =>
      have hne : d ≠ t := fun e => ht (by rw [hd, e])
      simp only [Act.put, Array.getD_eq_getD_getElem?]
      rw [Array.getElem?_setIfInBounds_ne hne]
  refine ⟨by rw [Array.size_setIfInBounds]; exact I.lsz, I.le.trans hE, ⟨H', hH, hR⟩, ?_, fun g hg => hE.bl _ _ (I.glob g hg), ?_, fun j c' t hj hc' hd => ?_, fun t ht => ?_, fun j q t hj hq hb => ?_, fun j c' hc' ha => ?_, ?_⟩
  · cases hd : c.o.dst with
    | none => exact I.size
    | some d => simp [Act.put, I.size]
  · cases hd : c.o.dst with
    | none => exact I.defs.mono hE
    | some d => exact I.defs.mono hE
  · rw [getD_set hil] at hj
    by_cases hji : i = j
    · subst hji
      obtain rfl : c = c' := by rw [hc] at hc'; exact Option.some.inj hc'
      rw [hself t hd]; exact hv
    · rw [if_neg hji] at hj
      rw [hother t fun e => hji (dsts_apart C.fin.apart (C.toL hc) (C.toL hc') e hd)]
      exact (I.vals j c' t hj hc' hd).mono hE
  · rw [hother t (ht i c hc)]
    exact I.rest t ht
  · rw [getD_set hil] at hj ⊢
    by_cases hti : i = t
    · rw [if_pos hti]
    · rw [if_neg hti]
      by_cases hji : i = j
      · subst hji
        rw [hm] at hq
        obtain rfl := Option.some.inj hq
        exact cl t hb
      · rw [if_neg hji] at hj
        exact I.closed j q t hj hq hb
  · rw [getD_set hil]
    by_cases hji : i = j
    · subst hji
      obtain rfl : c = c' := by rw [hc] at hc'; exact Option.some.inj hc'
      rw [if_pos rfl, if_pos ha] at *
      have := hk0 ha
      constructor
      · intro _; omega
      · intro _; rfl
    · rw [if_neg hji, I.acts j c' hc' ha]
      by_cases hca : c.act = true
      · rw [if_pos hca] at hk
        have h0 := hk0 hca
        have hne : nA R j ≠ k := by
          rcases Nat.lt_or_gt_of_ne (Ne.symm hji) with h | h
          · have h1 := nA_succ hc'
            rw [if_pos ha] at h1
            have := nA_mono R (i := j + 1) (j := i) h
            omega
          · have h1 := nA_succ hc
            rw [if_pos hca] at h1
            have := nA_mono R (i := i + 1) (j := j) h
            omega
        omega
      · rw [if_neg hca] at hk
        omega
  · by_cases hca : c.act = true
    · rw [if_pos hca] at hk
      have h1 := nA_succ hc
      rw [if_pos hca] at h1
      have := nA_mono R (i := i + 1) (j := R.length) hi
      have := hk0 hca
      omega
    · rw [if_neg hca] at hk
      have := I.kle
      omega

/-- what stands in a temporary that is read -/
theorem DInv.reads (C : Ctx P all R HS LF s sF HF pm) (I : DInv P w0 E0 R HS pm s a0 E k listed a w) (hF0 : FrR P E0 s a0) (hc : R[i]? = some c) {m : Nat} (hm : pm[i]? = some m) (cl : ∀ t, bitAt m t = true → listed.getD t false = true)
    {n : Nat} (hn : i ≤ n) {Lx : Ls} {sx : Lc} (hW : Wr R n [] s Lx sx) : ∀ t, t ∈ tsOf all c.o → ∀ u, getT sx Lx t = some u → VR E u (a.tmps.getD t undef) := fun t ht u hu => by
  rcases hW t u hu with ⟨j, c', h1, h2, h3, h4⟩ | ⟨h1, h2⟩
  · rw [← h4]
    exact I.vals j c' t (cl j (C.writers hc hm ht h2 h3)) h2 h3
  · have hno : ∀ (j : Nat) (c' : Rec), R[j]? = some c' → c'.o.dst ≠ some t := fun j c' hj hd => by
      have := C.pm_lt i m hm j (C.writers hc hm ht hj hd)
      exact h1 j c' (by omega) hj hd
    rw [I.rest t hno]
    unfold getT at h2
    cases hb : bitAt s.mask t with
    | true => rw [hb, bsel_t] at h2; exact (hF0.tmp t u hb h2).mono I.le
    | false => rw [hb, bsel_f] at h2; cases h2

theorem DInv.go (K : TbOk P) (C : Ctx P all R HS LF s sF HF pm) (I : DInv P w0 E0 R HS pm s a0 E k listed a w) (hF0 : FrR P E0 s a0) (hc : R[i]? = some c) (hu : listed.getD i false = false) (hr : ∀ e ∈ c.o.after.toList, bindsE e = true → listed.getD e.on false = true)
    {Q : Exit → Act → World → Prop} {Kt : Act → World → Prop} (hK : ∀ E' k' a' w', DInv P w0 E0 R HS pm s a0 E' k' (listed.setIfInBounds i true) a' w' → Kt a' w') : wpOp P.P all Q i Kt a w := by
  obtain ⟨m, hm, he, hrd, hgd⟩ := C.pmat i c hc
  have hi : i < R.length := (List.getElem?_eq_some_iff.1 hc).1
  have cl : ∀ t, bitAt m t = true → listed.getD t false = true := fun t ht => by
    obtain ⟨e, h1, h2, h3, h4⟩ := edge_out he ht
    have h5 := hr e h1 h2
    rcases h4 with rfl | ⟨q, hq, hb⟩
    · exact h5
    · rw [List.getElem?_take_of_lt h3] at hq
      exact I.closed e.on q t h5 hq hb
  obtain ⟨⟨Li, si, Hi, H1, hD, hHi, hH1, hng, hWr⟩, hlt⟩ := C.step i c hc
  have rd := fun {n : Nat} (hn : i ≤ n) {Lx : Ls} {sx : Lc} (hW : Wr R n [] s Lx sx) => I.reads C hF0 hc hm cl hn hW
  have fr : FrR P E (bare s) a := fr_bare hF0.ng I.size I.glob I.defs
  have lr : LR E (bare s) (sel (tsOf all c.o) si Li) a := lr_sel (rd (Nat.le_refl i) hWr)
  have loc := locR fr lr
  have lrF : LR E (bare s) (sel (tsOf all c.o) sF LF) a := lr_sel (rd (by omega) C.wrF)
  have locF := locR fr lrF
  have al : ∀ x ∈ c.o.op.operands.toList, Alike si Li (bare s) (sel (tsOf all c.o) si Li) x := fun x hx => alike_sel hng fun t e => by subst e; exact ts_op hx
  have alF : ∀ x ∈ c.o.op.operands.toList, Alike sF LF (bare s) (sel (tsOf all c.o) sF LF) x := fun x hx => alike_sel C.ng fun t e => by subst e; exact ts_op hx
  have hwant : ∀ b, wantG all si Li c.o.guard = some b → Region.wanted c.o (yielded all a.tmps) = b := fun b hb => wantG_ok fr lr (by
    rw [want_sel fun g o d h1 h2 h3 => ts_guard h1 h2 h3]
    exact hb)
  obtain ⟨Hk, hHk, hRep⟩ := I.rep
  unfold wpOp
  rw [C.at_ hc]
  dsimp only
  rcases hD with ⟨_, ha, hv, _, hw⟩ | ⟨hsk, ha, _, hw, hac, H'', hnx, hx⟩ | ⟨_, ha, hw, hdo⟩
  · rw [if_neg (by rw [hwant _ hw]; simp)]
    refine hK E k _ _ (I.next C hc hu hm cl (.refl E) (by rw [ha]; simp) (fun h => by rw [ha] at h; cases h) hHk hRep ?_)
    rw [hv]; exact .tuple .nil
  · rw [if_pos (hwant _ hw)]
    left
    have hq : Quiet P E w c.o a c.v := by
      cases hl : looks c.o with
      | false =>
        rcases still_of (P := P) (s := si) (L := Li) hac hl with hf | ⟨v, hv⟩
        · obtain ⟨n, e⟩ := hf Hi
          dsimp only at e
          rw [e] at hx; cases hx
        · have e1 := hv Hi
          dsimp only at e1
          rw [hx] at e1
          injection e1 with e1 _
          have e2 := hv Hk
          dsimp only at e2
          rw [← e1, ← execT_congr al] at e2
          exact quiet_ok K hRep loc hac rfl e2
      | true =>
        rcases C.fin.quiet with h1 | h1
        · have hl0 := C.len
          have hk0 : k = 0 := by have := I.kle; omega
          have hi0 : nA R i = 0 := by have := nA_mono R (i := i) (j := R.length) (by omega); omega
          subst hk0
          rw [hi0, hHk] at hHi
          obtain rfl := Option.some.inj hHi
          rw [← execT_congr al] at hx
          exact quiet_ok K hRep loc hac hnx hx
        · have h2 := quiet_at h1 hc ha hsk hl
          rw [Nat.zero_add, show pm.getD i 0 = m by simp [List.getD, hm]] at h2
          have h3 : Hk ∈ stagesOf m i pm (actsOf R 0) HS := by
            refine stages_mem hHk (by rw [acts_len]; exact I.kle) (fun q b hq hb => .inr fun pa hpa => ?_) fun b hb => ?_
            · obtain ⟨j, c', g1, g2, g3, g4⟩ := acts_at hb
              rw [Nat.zero_add] at g1
              subst g1
              have g5 := (I.acts b c' g2 g3).2 (by omega)
              cases hz : bitAt pa i with
              | false => rfl
              | true => rw [I.closed b pa i g5 hpa hz] at hu; cases hu
            · obtain ⟨j, c', g1, g2, g3, g4⟩ := acts_at hb
              rw [Nat.zero_add] at g1
              subst g1
              cases hz : bitAt m b with
              | false => rfl
              | true =>
                have := (I.acts b c' g2 g3).1 (cl b hz)
                omega
          have h4 := same_mem h2 h3
          cases hy : execT c.o.op P sF LF Hk c.o with
          | ok u Hu =>
            rw [hy] at h4
            obtain ⟨h5, h6⟩ := bsel_and (show bsel (sameV c.v u) (Nat.beq Hk.next Hu.next) false = true from h4)
            rw [← sameV_eq _ _ h5, ← execT_congr alF] at hy
            exact quiet_ok K hRep locF hac (Nat.eq_of_beq_eq_true h6) hy
          | _ => rw [hy] at h4; cases h4
    obtain ⟨cv, hvr, hrun⟩ := hq
    unfold Oper.wp
    rw [hrun]
    exact hK E k _ _ (I.next C hc hu hm cl (.refl E) (by rw [ha]; simp) (fun h => by rw [ha] at h; cases h) hHk hRep hvr)
  · rw [if_pos (hwant _ hw)]
    left
    have hki : nA R i = k := by
      have h1 : nA R i ≤ k := nA_le (by omega) fun j c' hj hc' ha' => (I.acts j c' hc' ha').1 (cl j (by
        have := (row_at C.fin.row hc ha).2 hj hc' ha'
        rw [Nat.zero_add, show pm.getD i 0 = m by simp [List.getD, hm]] at this
        exact this))
      have h2 : ¬ nA R i < k := fun h => by
        rw [(I.acts i c hc ha).2 h] at hu; cases hu
      omega
    rw [hki, hHk] at hHi
    obtain rfl := Option.some.inj hHi
    have hH1' := hH1 ha
    rw [hki] at hH1'
    have nx : ∀ {E' : Env} {w' : World} {cv : Value}, E.le E' → Rep P.P w0 E' H1 w' → VR E' c.v cv → Kt (a.put c.o.dst cv) w' := fun hE hR hv =>
      hK _ (k + 1) _ _ (I.next C hc hu hm cl hE (by rw [if_pos ha]) (fun _ => hki) hH1' hR hv)
    have hd := exec_ok (o := c.o) K hRep loc
    rw [execT_congr al] at hd
    unfold Oper.wp
    rcases hdo with hx | ⟨f, args, hx, hj⟩
    · rw [hx] at hd
      obtain ⟨E', w', cv, n, h1, h2, h3, h4, h5⟩ := hd
      rw [h5]
      rcases h4 with rfl | ⟨rfl, rfl⟩
      · exact nx h1 h2 h3
      · exact nx h1 h2 h3
    · rw [hx] at hd
      obtain ⟨cargs, h1, h2⟩ := hd
      rw [h2]
      refine (hj w0 E w cargs hRep h1 fun g hg => I.glob g (by rw [hF0.ng]; exact hg)).mono fun en w' hq => ?_
      obtain ⟨E', cv, q1, q2, q3, rfl⟩ := hq
      exact nx q1 q2 q3
end
end Go.Proofs.YtahgefpckhighaaGreatDoor.Ev
