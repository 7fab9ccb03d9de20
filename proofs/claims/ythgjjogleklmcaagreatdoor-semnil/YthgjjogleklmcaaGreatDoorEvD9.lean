/- The reckoner: part EvD9. -/
import Derived.Test.YthgjjogleklmcaaGreatDoorEvD12
namespace Go.Proofs.YthgjjogleklmcaaGreatDoor.Ev
open Go.RowKit
set_option linter.unusedVariables false

section
variable {P : Tb} {w0 : Base} {E0 E E' : Env} {all : Array Oper} {R : List Rec} {HS : List St} {LF : Ls} {s sF : Lc} {HF Hk H' : St} {pm : List Nat} {a0 a : Act} {w w' : World} {k k' : Nat} {listed : Array Bool} {i : Nat} {c : Rec} {cv : Value}

/-- the temporaries, as far as some order of the region has come -/
structure VInv (P : Tb) (E0 : Env) (R : List Rec) (pm : List Nat) (s : Lc) (a0 : Act) (E : Env) (listed : Array Bool) (a : Act) : Prop where
  lsz : listed.size = R.length
  size : a.tmps.size = s.N
  defs : DefsR P E0 s.D a.defers
  vals : ∀ (j : Nat) (c : Rec) (t : Tmp), listed.getD j false = true → R[j]? = some c → c.o.dst = some t → VR E c.v (a.tmps.getD t undef)
  rest : ∀ (t : Tmp), (∀ (j : Nat) (c : Rec), listed.getD j false = true → R[j]? = some c → c.o.dst ≠ some t) → a.tmps.getD t undef = a0.tmps.getD t undef
  closed : ∀ (j m t : Nat), listed.getD j false = true → pm[j]? = some m → bitAt m t = true → listed.getD t false = true

theorem VInv.next (C : Ctx P all R HS LF s sF HF pm) (I : VInv P E0 R pm s a0 E listed a) (hc : R[i]? = some c) {m : Nat} (hm : pm[i]? = some m) (cl : ∀ t, bitAt m t = true → listed.getD t false = true)
    (hE : E.le E') (hv : VR E' c.v cv) : VInv P E0 R pm s a0 E' (listed.setIfInBounds i true) (a.put c.o.dst cv) := by
  have hi : i < R.length := (List.getElem?_eq_some_iff.1 hc).1
  have hil : i < listed.size := by rw [I.lsz]; exact hi
  have hlt := (C.step i c hc).lt
  have hself : ∀ t, c.o.dst = some t → (a.put c.o.dst cv).tmps.getD t undef = cv := fun t ht => by
    have : t < a.tmps.size := by rw [I.size]; exact hlt t ht
    rw [ht]
    simp [Act.put, Array.getD, this]
  have hother : ∀ t, c.o.dst ≠ some t → (a.put c.o.dst cv).tmps.getD t undef = a.tmps.getD t undef := fun t ht => by
    cases hd : c.o.dst with
    | none => rfl
    | some d =>
      have hne : d ≠ t := fun e => ht (by rw [hd, e])
      simp only [Act.put, Array.getD_eq_getD_getElem?]
      rw [Array.getElem?_setIfInBounds_ne hne]
  refine ⟨by rw [Array.size_setIfInBounds]; exact I.lsz, ?_, ?_, fun j c' t hj hc' hd => ?_, fun t ht => ?_, fun j q t hj hq hb => ?_⟩
  · cases hd : c.o.dst with
    | none => exact I.size
    | some d => simp [Act.put, I.size]
  · cases hd : c.o.dst with
    | none => exact I.defs
    | some d => exact I.defs
  · rw [getD_set hil] at hj
    by_cases hji : i = j
    · subst hji
      obtain rfl : c = c' := by rw [hc] at hc'; exact Option.some.inj hc'
      rw [hself t hd]; exact hv
    · rw [if_neg hji] at hj
      rw [hother t fun e => hji (dsts_apart C.fin.apart (C.toL hc) (C.toL hc') e hd)]
      exact (I.vals j c' t hj hc' hd).mono hE
  · rw [hother t (ht i c (by rw [getD_set hil, if_pos rfl]) hc)]
    refine I.rest t fun j c' hj hc' => ht j c' ?_ hc'
    rw [getD_set hil]; split
    · rfl
    · exact hj
  · rw [getD_set hil] at hj ⊢
    by_cases hti : i = t
    · rw [if_pos hti]
    · rw [if_neg hti]
      by_cases hji : i = j
      · subst hji
        rw [hm] at hq
        obtain rfl := Option.some.inj hq
        exact cl t hb
      · rw [if_neg hji] at hj
        exact I.closed j q t hj hq hb

/-- what stands in a temporary that was there ahead of the region -/
theorem VInv.first (I : VInv P E0 R pm s a0 E listed a) (hle : E0.le E) (hF0 : FrR P E0 s a0) {t : Nat} {u : Value} (hno : ∀ (j : Nat) (c : Rec), listed.getD j false = true → R[j]? = some c → c.o.dst ≠ some t) (h : getT s [] t = some u) : VR E u (a.tmps.getD t undef) := by
  rw [I.rest t hno]
  unfold getT at h
  cases hb : bitAt s.mask t with
  | true => rw [hb, bsel_t] at h; exact (hF0.tmp t u hb h).mono hle
  | false => rw [hb, bsel_f] at h; cases h
/-- what stands in a temporary that is read -/
theorem VInv.reads (C : Ctx P all R HS LF s sF HF pm) (I : VInv P E0 R pm s a0 E listed a) (hle : E0.le E) (hF0 : FrR P E0 s a0) (hc : R[i]? = some c) (hu : listed.getD i false = false) {m : Nat} (hm : pm[i]? = some m) (cl : ∀ t, bitAt m t = true → listed.getD t false = true)
    {Lx : Ls} {sx : Lc} (hW : Wr R i [] s Lx sx) : ∀ t, t ∈ tsOf all c.o → ∀ u, getT sx Lx t = some u → VR E u (a.tmps.getD t undef) := fun t ht u hu' => by
  have late : ∀ {j : Nat} {c' : Rec}, R[j]? = some c' → (∃ e ∈ c'.o.after.toList, bindsE e = true ∧ e.on = i) → i < j ∧ ∃ q, pm[j]? = some q ∧ bitAt q i = true := fun {j c'} h2 h => by
    obtain ⟨e, e1, e2, rfl⟩ := h
    obtain ⟨q, g1, g2, _⟩ := C.pmat j c' h2
    have := edge_in g2 e e1 e2
    exact ⟨this.1, q, g1, this.2⟩
  rcases hW t u hu' with ⟨j, c', h1, h2, h3, h4⟩ | ⟨h1, h2⟩
  · rw [← h4]
    rcases C.writers hc hm ht h2 h3 with g | g | g
    · exact I.vals j c' t (cl j g) h2 h3
    · omega
    · have := (late h2 g).1; omega
  · refine I.first hle hF0 (fun j c' hj hc' hd => ?_) h2
    rcases C.writers hc hm ht hc' hd with g | g | g
    · exact h1 j c' (C.pm_lt i m hm j g) hc' hd
    · subst g; rw [hu] at hj; cases hj
    · obtain ⟨_, q, g1, g2⟩ := late hc' g
      have := I.closed j q i hj g1 g2
      rw [hu] at this; cases this
theorem VInv.readsF (C : Ctx P all R HS LF s sF HF pm) (I : VInv P E0 R pm s a0 E listed a) (hle : E0.le E) (hF0 : FrR P E0 s a0) (hc : R[i]? = some c) {m : Nat} (hm : pm[i]? = some m) (cl : ∀ t, bitAt m t = true → listed.getD t false = true)
    (hs : readsS all.toList m c.o.op.operands.toList = true) : ∀ t, t ∈ tsOf all c.o → ∀ u, getT sF LF t = some u → VR E u (a.tmps.getD t undef) := fun t ht u hu' => by
  rcases C.wrF t u hu' with ⟨j, c', h1, h2, h3, h4⟩ | ⟨h1, h2⟩
  · rw [← h4]
    exact I.vals j c' t (cl j (C.writersS hc hm hs ht h2 h3)) h2 h3
  · exact I.first hle hF0 (fun j c' hj hc' hd => h1 j c' (List.getElem?_eq_some_iff.1 hc').1 hc' hd) h2

/-- what an operation's own operands read -/
def tsO (o : Oper) : List Nat := o.op.operands.toList.filterMap readsOf
theorem ts_o {o : Oper} {t : Nat} (h : Operand.tmp t ∈ o.op.operands.toList) : t ∈ tsO o := List.mem_filterMap.2 ⟨_, h, rfl⟩
theorem ts_oInv {o : Oper} {t : Nat} (h : t ∈ tsO o) : Operand.tmp t ∈ o.op.operands.toList := by
  obtain ⟨x, hx, h⟩ := List.mem_filterMap.1 h
  cases x with
  | tmp q => obtain rfl : q = t := by simpa [readsOf] using h
             exact hx
  | _ => cases h
theorem all_at {α : Type} {f : α → Bool} : ∀ {l : List α}, allL f l = true → ∀ x ∈ l, f x = true
  | [], _, x, h => by cases h
  | y :: r, h, x, hx => by
    obtain ⟨h1, h2⟩ := bsel_and h
    rcases List.mem_cons.1 hx with rfl | hx
    · exact h1
    · exact all_at h2 x hx
/-- what is read leads to what is below the bound -/
theorem lr_cut {si : Lc} {Li : Ls} {o : Oper} {H : St} (hb : bndsO si Li H o = true) (hT : ∀ t, t ∈ tsOf all o → ∀ u, getT si Li t = some u → VR E u (a.tmps.getD t undef)) : LR (E.cut H.next) (bare s) (sel (tsO o) si Li) a := lr_sel fun t ht u hu => by
  have h1 := ts_oInv ht
  have h2 : bndO H.next si Li (.tmp t) = true := all_at hb _ h1
  unfold bndO at h2
  rw [show evO si Li (.tmp t) = getT si Li t from rfl, hu, osel_s] at h2
  exact (hT t (ts_op h1) u hu).cut h2

/-- how far some order of the region has come -/
structure DInv (P : Tb) (w0 : Base) (E0 : Env) (R : List Rec) (HS : List St) (HF : St) (pm : List Nat) (s : Lc) (a0 : Act) (E : Env) (k : Nat) (Hk : St) (listed : Array Bool) (a : Act) (w : World) : Prop where
  v : VInv P E0 R pm s a0 E listed a
  h : HInv P w0 E0 R HS HF E k Hk listed w

theorem HInv.still (I : HInv P w0 E0 R HS HF E k Hk listed w) (hil : i < listed.size) (hc : R[i]? = some c) (ha : c.act = false) : HInv P w0 E0 R HS HF E k Hk (listed.setIfInBounds i true) w := by
  have same : ∀ j c', R[j]? = some c' → c'.act = true → (listed.setIfInBounds i true).getD j false = listed.getD j false := fun j c' h1 h2 => by
    rw [getD_set hil, if_neg]
    intro e
    subst e
    rw [hc] at h1; cases h1
    rw [ha] at h2; cases h2
  refine ⟨I.at_, I.le, I.rep, fun b B h1 h2 => ?_, I.inj, fun j c' h1 h2 h3 h4 => I.fls j c' h1 h2 (by rwa [same j c' h1 h2] at h3) h4, fun j c' h1 h2 h3 => by rw [same j c' h1 h2]; exact I.acts j c' h1 h2 h3, I.top, I.kle⟩
  obtain ⟨j, c', Hj, g1, g2, g3, g4⟩ := I.fl b B h1 h2
  exact ⟨j, c', Hj, g1, g2, by rw [same j c' g1 g2]; exact g3, g4⟩

theorem DInv.go (K : TbOk P) (C : Ctx P all R HS LF s sF HF pm) (I0 : DInv P w0 E0 R HS HF pm s a0 E k Hk listed a w) (hF0 : FrR P E0 s a0) (hc : R[i]? = some c) (hu : listed.getD i false = false) (hr : ∀ e ∈ c.o.after.toList, bindsE e = true → listed.getD e.on false = true)
    {Q : Exit → Act → World → Prop} {Kt : Act → World → Prop} (hK : ∀ E' k' Hk' a' w', DInv P w0 E0 R HS HF pm s a0 E' k' Hk' (listed.setIfInBounds i true) a' w' → Kt a' w') : wpOp P.P all Q i Kt a w := by
  obtain ⟨V, J0⟩ := I0
  obtain ⟨k, Hk, J, hfirst⟩ := J0.norm C _ (Nat.le_refl _)
  clear J0
  obtain ⟨m, hm, he, hrd, hgd⟩ := C.pmat i c hc
  have hi : i < R.length := (List.getElem?_eq_some_iff.1 hc).1
  have hil : i < listed.size := by rw [V.lsz]; exact hi
  have hle : E0.le E := J.le.trans Env.cut_le
  have cl : ∀ t, bitAt m t = true → listed.getD t false = true := fun t ht => by
    obtain ⟨e, h1, h2, h3, h4⟩ := edge_out he ht
    have h5 := hr e h1 h2
    rcases h4 with rfl | ⟨q, hq, hb⟩
    · exact h5
    · rw [List.getElem?_take_of_lt h3] at hq
      exact V.closed e.on q t h5 hq hb
  obtain ⟨⟨Li, si, Hi, H1, hD, hHi, hH1, hng, hWr⟩, hlt⟩ := C.step i c hc
  have rd := V.reads C hle hF0 hc hu hm cl hWr
  have glob : ∀ {n : Nat}, E0.le (E.cut n) → ∀ g, g < s.ng → (E.cut n).bl g = some g := fun h g hg => h.bl _ _ (hF0.glob g hg)
  have fr : FrR P E (bare s) a := fr_bare hF0.ng V.size (fun g hg => hle.bl _ _ (hF0.glob g hg)) (V.defs.mono hle)
  have lr : LR E (bare s) (sel (tsOf all c.o) si Li) a := lr_sel rd
  have loc := locR fr lr
  have al : ∀ x ∈ c.o.op.operands.toList, Alike si Li (bare s) (sel (tsOf all c.o) si Li) x := fun x hx => alike_sel hng fun t e => by subst e; exact ts_op hx
  have alO : ∀ x ∈ c.o.op.operands.toList, Alike si Li (bare s) (sel (tsO c.o) si Li) x := fun x hx => alike_sel hng fun t e => by subst e; exact ts_o hx
  have alF : ∀ x ∈ c.o.op.operands.toList, Alike sF LF (bare s) (sel (tsO c.o) sF LF) x := fun x hx => alike_sel C.ng fun t e => by subst e; exact ts_o hx
  have hwant : ∀ b, wantG all si Li c.o.guard = some b → Region.wanted c.o (yielded all a.tmps) = b := fun b hb => wantG_ok fr lr (by
    rw [want_sel fun g o d h1 h2 h3 => ts_guard h1 h2 h3]
    exact hb)
  have hkF := J.kF C
  unfold wpOp
  rw [C.at_ hc]
  dsimp only
  rcases hD with ⟨_, ha, hv, _, hw⟩ | ⟨hsk, ha, _, hw, hac, H'', hnx, hx⟩ | ⟨_, ha, hw, hdo, hmn, hbn⟩
  · rw [if_neg (by rw [hwant _ hw]; simp)]
    refine hK E k Hk _ _ ⟨V.next C hc hm cl (.refl E) ?_, J.still hil hc ha⟩
    rw [hv]; exact .tuple .nil
  · rw [if_pos (hwant _ hw)]
    left
    have hq : Quiet P E w c.o a c.v := by
      have hRN : Rep P.P w0 E ⟨HF.next, Hk.tr⟩ w := J.rep.up Env.cut_le HF.next J.top
      cases hl : looks c.o with
      | false =>
        rcases still_of (P := P) (s := si) (L := Li) hac hl with hf | ⟨v, hv⟩
        · obtain ⟨n, e⟩ := hf Hi
          dsimp only at e
          rw [e] at hx; cases hx
        · have e1 := hv Hi
          dsimp only at e1
          rw [hx] at e1
          injection e1 with e1 _
          have e2 := hv ⟨HF.next, Hk.tr⟩
          dsimp only at e2
          rw [← e1, ← execT_congr al] at e2
          exact quiet_ok K hRN loc hac rfl e2
      | true =>
        rcases C.fin.quiet with h1 | h1
        · have hl0 := C.len
          have hk0 : k = 0 := by have := J.kle; omega
          have hi0 : nA R i = 0 := by have := nA_mono R (i := i) (j := R.length) (by omega); omega
          have hf0 : nA R R.length = 0 := by omega
          subst hk0
          rw [hi0, J.at_] at hHi
          obtain rfl := Option.some.inj hHi
          have hHF := C.HFat
          rw [hf0, J.at_] at hHF
          obtain rfl := Option.some.inj hHF
          rw [← execT_congr al] at hx
          exact quiet_ok K hRN loc hac hnx hx
        · have h2 := quiet_at h1 hc ha hsk hl
          rw [Nat.zero_add, show pm.getD i 0 = m by simp [List.getD, hm]] at h2
          obtain ⟨hS, h2⟩ := h2
          have h3 : Hk ∈ stagesOf m i pm (actsOf R 0) HS := by
            refine stages_mem J.at_ (by rw [acts_len]; exact J.kle) (fun q b hq hb => .inr fun pa hpa => ?_) fun b hb => ?_
            · obtain ⟨j, c', g1, g2, g3, g4⟩ := acts_at hb
              rw [Nat.zero_add] at g1
              subst g1
              have g5 := J.acts b c' g2 g3 (by omega)
              cases hz : bitAt pa i with
              | false => rfl
              | true => rw [V.closed b pa i g5 hpa hz] at hu; cases hu
            · obtain ⟨j, c', g1, g2, g3, g4⟩ := acts_at hb
              rw [Nat.zero_add] at g1
              subst g1
              cases hz : bitAt m b with
              | false => rfl
              | true =>
                have := hfirst b c' g2 g3 g4
                rw [cl b hz] at this; cases this
          obtain ⟨hbn, h4⟩ := same_mem h2 h3
          have hleC : E0.le (E.cut Hk.next) := J.le
          have frC : FrR P (E.cut Hk.next) (bare s) a := fr_bare hF0.ng V.size (glob hleC) (V.defs.mono hleC)
          have lrC : LR (E.cut Hk.next) (bare s) (sel (tsO c.o) sF LF) a := lr_cut hbn (V.readsF C hle hF0 hc hm cl hS)
          cases hy : execT c.o.op P sF LF Hk c.o with
          | ok u Hu =>
            rw [hy] at h4
            obtain ⟨h5, h6⟩ := bsel_and (show bsel (sameV c.v u) (Nat.beq Hk.next Hu.next) false = true from h4)
            rw [← sameV_eq _ _ h5, ← execT_congr alF] at hy
            obtain ⟨cv, q1, q2⟩ := quiet_ok K J.rep (locR frC lrC) hac (Nat.eq_of_beq_eq_true h6) hy
            exact ⟨cv, q1.mono Env.cut_le, q2⟩
          | _ => rw [hy] at h4; cases h4
    obtain ⟨cv, hvr, hrun⟩ := hq
    unfold Oper.wp
    rw [hrun]
    exact hK E k Hk _ _ ⟨V.next C hc hm cl (.refl E) hvr, J.still hil hc ha⟩
  · rw [if_pos (hwant _ hw)]
    left
    cases hf : floatO P c.o with
    | true =>
      rcases hdo with hx | ⟨f, args, hx, _⟩
      · obtain ⟨e, zs, hz, rfl, Vf, hvf, hxa, hform⟩ := float_inv hf hx
        have hxN := hxa ⟨HF.next, BT.mk 0 HF.next⟩
        rw [← execT_congr al] at hxN
        have hRE : Rep P.P ⟨w, fun k => k < w.heap.size, fun _ h => h, fun k => k < w.heap.size, fun _ h => h⟩ E ⟨HF.next, BT.mk 0 HF.next⟩ w :=
          ⟨⟨rfl, rfl, rfl, Nat.le_refl _, fun _ _ => rfl⟩, fun b k' hk => (by rw [BT.get_mk] at hk; cases hk), fun b b' k1 k2 B hk => (by rw [BT.get_mk] at hk; cases hk), fun b k' B hk => (by rw [BT.get_mk] at hk; cases hk), J.top, fun b k' B hk => (by rw [BT.get_mk] at hk; cases hk)⟩
        have hd := exec_ok (o := c.o) K hRE loc
        rw [hxN] at hd
        obtain ⟨E', w', cv, n, h1, h2, h3, h4, h5⟩ := hd
        have hself : (newCells ⟨HF.next, BT.mk 0 HF.next⟩ e zs false false).tr.get HF.next = some (mkCells e zs zs.length (depthOf zs.length) false false) := by
          show BT.get (BT.put (BT.mk 0 HF.next) HF.next (some (mkCells e zs zs.length (depthOf zs.length) false false))) HF.next = _
          rw [BT.mk_zero, BT.put_leaf, Nat.beq_refl, bsel_t, BT.get_leaf, Nat.beq_refl, bsel_t]
        obtain ⟨B, o, g1, g2, g3⟩ := h2.blk _ _ hself
        have hBge : w.heap.size ≤ B := Nat.not_lt.1 (h2.far _ _ _ hself g1)
        have hbel : Below w.heap.size w w' := ⟨h2.stays.os, h2.stays.tape, h2.stays.output, h2.stays.size, fun k' hk' => h2.stays.block k' hk'⟩
        obtain ⟨hno, J'⟩ := J.float C V.lsz hc ha hu hf hHi (hH1 ha) hbel hBge g2 (blk_any hz g3)
        have hvr : VR (E.with Hi.next B 0) c.v cv := by
          rw [hvf]
          exact float_vr hform h3 g1 Env.with_bl
        have hfin := hK _ k Hk _ _ ⟨V.next C hc hm cl (Env.le_with hno) hvr, J'⟩
        unfold Oper.wp
        rw [h5]
        rcases h4 with rfl | ⟨rfl, rfl⟩
        · exact hfin
        · exact hfin
      · exfalso
        unfold floatO at hf
        split at hf
        · rename_i t hop; rw [hop] at hx
          have : onlyOk (xAlloc t P si Li Hi c.o) = .call f args := hx
          cases hz : xAlloc t P si Li Hi c.o <;> rw [hz] at this <;> cases this
        · rename_i t l c' hop; rw [hop] at hx
          have : onlyOk (xMakeSlice t l c' P si Li Hi c.o) = .call f args := hx
          cases hz : xMakeSlice t l c' P si Li Hi c.o <;> rw [hz] at this <;> cases this
        · cases hf
    | false =>
      have hki : nA R i = k := by
        have h1 : k ≤ nA R i := by
          rcases Nat.lt_or_ge (nA R i) k with q | q
          · have := J.acts i c hc ha q; rw [hu] at this; cases this
          · exact q
        rcases Nat.lt_or_ge k (nA R i) with q | q
        · obtain ⟨j, c', g1, g2, g3⟩ := act_idx (R := R) (q := k) (by have := nA_lt hc ha; omega)
          have hji : j < i := by
            rcases Nat.lt_or_ge j i with r | r
            · exact r
            · have := nA_mono R r; omega
          have hb := (row_at C.fin.row hc ha hf).2 hji g1 g2
          rw [Nat.zero_add, show pm.getD i 0 = m by simp [List.getD, hm]] at hb
          have := hfirst j c' g1 g2 g3
          rw [cl j hb] at this; cases this
        · omega
      rw [hki, J.at_] at hHi
      obtain rfl := Option.some.inj hHi
      have hH1' := hH1 ha
      rw [hki] at hH1'
      have hleC : E0.le (E.cut Hk.next) := J.le
      have frC : FrR P (E.cut Hk.next) (bare s) a := fr_bare hF0.ng V.size (glob hleC) (V.defs.mono hleC)
      have lrC : LR (E.cut Hk.next) (bare s) (sel (tsO c.o) si Li) a := lr_cut hbn rd
      have nx : ∀ {E' : Env} {w' : World} {cv : Value}, (E.cut Hk.next).le E' → Rep P.P (w0.at w J.G J.rep.stays.size J.g_lt) E' H1 w' → VR E' c.v cv → Kt (a.put c.o.dst cv) w' := fun hE hR hv => by
        obtain ⟨E2, q1, q2, J'⟩ := J.act C V.lsz hc ha hki hu hH1' hE hR
        exact hK _ (k + 1) H1 _ _ ⟨V.next C hc hm cl q1 (hv.mono q2), J'⟩
      have hd := exec_ok (o := c.o) K J.base (locR frC lrC)
      rw [execT_congr alO] at hd
      unfold Oper.wp
      rcases hdo with hx | ⟨f, args, hx, hj⟩
      · rw [hx] at hd
        obtain ⟨E', w', cv, n, h1, h2, h3, h4, h5⟩ := hd
        rw [h5]
        rcases h4 with rfl | ⟨rfl, rfl⟩
        · exact nx h1 h2 h3
        · exact nx h1 h2 h3
      · rw [hx] at hd
        obtain ⟨cargs, h1, h2⟩ := hd
        rw [h2]
        refine (hj _ _ w cargs J.base h1 fun g hg => glob hleC g (by rw [hF0.ng]; exact hg)).mono fun en w' hq => ?_
        obtain ⟨E', cv, q1, q2, q3, rfl⟩ := hq
        exact nx q1 q2 q3
end
end Go.Proofs.YthgjjogleklmcaaGreatDoor.Ev
