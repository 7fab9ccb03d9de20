/- The reckoner: part EvD10. -/
import Derived.Test.YthgjjogleklmcaaGreatDoorEvD9
namespace Go.Proofs.YthgjjogleklmcaaGreatDoor.Ev
open Go.RowKit
set_option linter.unusedVariables false

/-- how many of the first n are not listed -/
def nU (l : Array Bool) : Nat → Nat
  | 0 => 0
  | n + 1 => nU l n + if l.getD n false = true then 0 else 1
theorem nU_zero {l : Array Bool} : ∀ {n : Nat}, nU l n = 0 → ∀ i, i < n → l.getD i false = true
  | 0, _, i, h => by omega
  | n + 1, h, i, hi => by
    unfold nU at h
    by_cases hb : l.getD n false = true
    · rcases Nat.lt_succ_iff_lt_or_eq.1 hi with q | q
      · exact nU_zero (by omega) i q
      · rw [q]; exact hb
    · rw [if_neg hb] at h; omega
theorem nU_set {l : Array Bool} {i : Nat} (hi : i < l.size) (hu : l.getD i false = false) : ∀ (n : Nat), nU (l.setIfInBounds i true) n + (if i < n then 1 else 0) = nU l n
  | 0 => rfl
  | n + 1 => by
    have ih := nU_set hi hu n
    unfold nU
    rw [getD_set hi]
    by_cases h : i = n
    · subst h
      rw [if_neg (Nat.lt_irrefl i)] at ih
      rw [if_pos rfl, if_pos rfl, if_pos (Nat.lt_succ_self i), hu]
      simp; omega
    · rw [if_neg h]
      by_cases h2 : i < n
      · have h3 : i < n + 1 := by omega
        rw [if_pos h2] at ih; rw [if_pos h3]; omega
      · have h3 : ¬ i < n + 1 := by omega
        rw [if_neg h2] at ih; rw [if_neg h3]; omega
theorem binds_eq (e : Edge) : Region.binds .any e = bindsE e := by
  unfold Region.binds bindsE
  cases e.ground <;> rfl
theorem getD_both {l : Array Bool} {i : Nat} (h : i < l.size) : l.getD i true = l.getD i false := by simp [Array.getD, h]
section
variable {P : Tb} {w0 : Base} {E0 E : Env} {all : Array Oper} {R : List Rec} {HS : List St} {LF : Ls} {s sF : Lc} {HF Hk : St} {pm : List Nat} {a0 a : Act} {w : World} {k : Nat} {listed : Array Bool}
theorem ready_of (C : Ctx P all R HS LF s sF HF pm) (hsz : listed.size = R.length) {i : Nat} (h : i ∈ Region.ready .any all listed) :
    ∃ c, R[i]? = some c ∧ listed.getD i false = false ∧ ∀ e ∈ c.o.after.toList, bindsE e = true → listed.getD e.on false = true := by
  unfold Region.ready at h
  obtain ⟨h1, h2⟩ := List.mem_filter.1 h
  have hi : i < R.length := by rw [← C.size]; exact List.mem_range.1 h1
  obtain ⟨h3, h4⟩ := Bool.and_eq_true_iff.1 h2
  rw [getD_both (by rw [hsz]; exact hi)] at h3
  refine ⟨R[i], List.getElem?_eq_getElem hi, by simpa using h3, fun e he hb => ?_⟩
  rw [C.at_ (List.getElem?_eq_getElem hi)] at h4
  have h5 : (R[i].o.after.all fun e => !Region.binds .any e || listed.getD e.on false) = true := by simpa using h4
  have h6 := Array.all_eq_true_iff_forall_mem.1 h5 e (by simpa using he)
  rw [binds_eq, hb] at h6
  simpa using h6
theorem all_of (C : Ctx P all R HS LF s sF HF pm) (hsz : listed.size = R.length) (h : Region.ready .any all listed = []) : ∀ i, i < R.length → listed.getD i false = true := fun i => by
  induction i using Nat.strongRecOn with
  | ind i ih =>
    intro hi
    cases hb : listed.getD i false with
    | true => rfl
    | false =>
      exfalso
      have hc : R[i]? = some R[i] := List.getElem?_eq_getElem hi
      have hm : i ∈ Region.ready .any all listed := by
        unfold Region.ready
        refine List.mem_filter.2 ⟨List.mem_range.2 (by rw [C.size]; exact hi), ?_⟩
        rw [getD_both (by rw [hsz]; exact hi), hb, C.at_ hc]
        simp only [Option.map_some, Option.getD_some, Bool.not_false, Bool.true_and]
        refine Array.all_eq_true_iff_forall_mem.2 fun e he => ?_
        rw [binds_eq]
        cases hbe : bindsE e with
        | false => rfl
        | true =>
          obtain ⟨m, _, h2, _⟩ := C.pmat i _ hc
          have := edge_in h2 e (by simpa using he) hbe
          rw [ih e.on this.1 (by omega)]
          rfl
      rw [h] at hm; cases hm
theorem end_of (C : Ctx P all R HS LF s sF HF pm) (I : DInv P w0 E0 R HS HF pm s a0 E k Hk listed a w) (hF0 : FrR P E0 s a0) (h : ∀ i, i < R.length → listed.getD i false = true) : CodeQ P w0 E0 .normal sF HF .normal a w := by
  obtain ⟨V, J0⟩ := I
  obtain ⟨k, Hk, J, hfirst⟩ := J0.norm C _ (Nat.le_refl _)
  have hk : k = nA R R.length := by
    rcases Nat.lt_or_ge k (nA R R.length) with q | q
    · obtain ⟨j, c, g1, g2, g3⟩ := act_idx q
      have := hfirst j c g1 g2 g3
      rw [h j (List.getElem?_eq_some_iff.1 g1).1] at this; cases this
    · have := J.kle; omega
  have g1 := J.at_
  rw [hk, C.HFat] at g1
  obtain rfl := Option.some.inj g1
  have hle : E0.le E := J.le.trans Env.cut_le
  have hR : Rep P.P w0 E HF w := J.rep.up Env.cut_le HF.next J.top
  refine ⟨E, hle, hR, ⟨by rw [C.ng]; exact hF0.ng, by rw [C.N]; exact V.size, fun t v hb hv => ?_, by rw [C.ng]; exact fun g hg => hle.bl _ _ (hF0.glob g hg), by rw [C.D]; exact V.defs.mono hle⟩, .normal⟩
  have hg : getT sF LF t = some v := by unfold getT; rw [hb, bsel_t]; exact hv
  rcases C.wrF t v hg with ⟨j, c, h1, h2, h3, h4⟩ | ⟨h1, h2⟩
  · rw [← h4]; exact V.vals j c t (h j h1) h2 h3
  · exact V.first hle hF0 (fun j c _ hj => h1 j c (List.getElem?_eq_some_iff.1 hj).1 hj) h2
theorem any_of (K : TbOk P) (C : Ctx P all R HS LF s sF HF pm) (hF0 : FrR P E0 s a0) : ∀ (fuel : Nat) {E : Env} {k : Nat} {Hk : St} {listed : Array Bool} {a : Act} {w : World}, DInv P w0 E0 R HS HF pm s a0 E k Hk listed a w → nU listed R.length ≤ fuel →
    wpAny P.P .any all (CodeQ P w0 E0 .normal sF HF) fuel listed a w
  | 0, E, k, Hk, listed, a, w, I, h => by
    have hall := nU_zero (n := R.length) (l := listed) (by omega)
    refine ⟨?_, end_of C I hF0 hall⟩
    refine List.eq_nil_iff_forall_not_mem.2 fun i hi => ?_
    obtain ⟨c, h1, h2, _⟩ := ready_of C I.v.lsz hi
    rw [hall i (List.getElem?_eq_some_iff.1 h1).1] at h2
    cases h2
  | fuel + 1, E, k, Hk, listed, a, w, I, h => by
    refine ⟨fun hr => end_of C I hF0 (all_of C I.v.lsz hr), fun i hi => ?_⟩
    obtain ⟨c, h1, h2, h3⟩ := ready_of C I.v.lsz hi
    have hlt := (List.getElem?_eq_some_iff.1 h1).1
    refine I.go K C hF0 h1 h2 h3 fun E' k' Hk' a' w' I' => any_of K C hF0 fuel I' ?_
    have := nU_set (l := listed) (i := i) (by rw [I.v.lsz]; exact hlt) h2 R.length
    rw [if_pos hlt] at this
    omega
theorem draw_ok (K : TbOk P) : DrawOk P := fun n hS i ops s H => by
  cases hg : run P n (.dops ops.toList ops [] [H] [] s H) with
  | code e sF HF =>
    intro w0 E w a hR hF
    obtain ⟨rfl, R, hh, LF, hT, pm, hFin⟩ := tr_of hS hg
    have C := ctx_of hT (by simpa using hFin)
    refine wp_region_any K.mixed ?_
    rw [C.size]
    have hfalse : ∀ j, (Array.replicate R.length false).getD j false = false := fun j => by simp only [Array.getD_eq_getD_getElem?, Array.getElem?_replicate]; split <;> rfl
    have hcutE : E.le (E.cut H.next) := ⟨fun b B hb => (by
      rcases Nat.lt_or_ge b H.next with q | q
      · rw [Env.cut_lt q]; exact hb
      · rw [hR.fresh b q] at hb; cases hb), fun _ _ _ => rfl, rfl⟩
    have hkF : H.next ≤ HF.next := C.mono' (q := 0) (r := nA R R.length) rfl C.HFat (Nat.zero_le _)
    have V : VInv P E R pm s a E (Array.replicate R.length false) a := ⟨by simp, hF.size, hF.defs, fun j c t h => (by rw [hfalse] at h; cases h), fun t _ => rfl, fun j m t h => (by rw [hfalse] at h; cases h)⟩
    have J : HInv P w0 E R (H :: hh) HF E 0 H (Array.replicate R.length false) w.drew := by
      refine ⟨rfl, hcutE, hR.drew.up hcutE H.next fun b hb => Env.cut_ge hb, fun b B h1 h2 => ?_, fun b b' B h1 _ h2 => ?_, fun j c _ _ h => ?_, fun j c _ _ h => ?_, fun b hb => hR.fresh b (by omega), Nat.zero_le _⟩
      · rw [hR.fresh b h1] at h2; cases h2
      · rw [hR.fresh b h1] at h2; cases h2
      · rw [hfalse] at h; cases h
      · omega
    refine any_of K C hF R.length ⟨V, J⟩ ?_
    have : ∀ n, nU (Array.replicate R.length false) n = n := fun n => by
      induction n with
      | zero => rfl
      | succ n ih => unfold nU; rw [ih, hfalse]; simp
    rw [this]; exact Nat.le_refl _
  | _ => trivial
theorem sound_all (K : TbOk P) (hM : MemosOk P) (n : Nat) : SoundAt P n := sound K hM (draw_ok K) n
end
end Go.Proofs.YthgjjogleklmcaaGreatDoor.Ev
