/- The reckoner: part EvD6. -/
import Derived.Test.YthgjjogleklmcaaGreatDoorEvD5
namespace Go.Proofs.YthgjjogleklmcaaGreatDoor.Ev
open Go.RowKit
set_option linter.unusedVariables false

/-- how many of the first i act -/
def nA : List Rec → Nat → Nat
  | [], _ => 0
  | _ :: _, 0 => 0
  | c :: r, i + 1 => (if c.act = true then 1 else 0) + nA r i
theorem nA_zero (R : List Rec) : nA R 0 = 0 := by cases R <;> rfl
theorem nA_succ : ∀ {R : List Rec} {i : Nat} {c : Rec}, R[i]? = some c → nA R (i + 1) = nA R i + (if c.act = true then 1 else 0)
  | [], _, _, h => by simp at h
  | x :: r, 0, c, h => by
    obtain rfl : x = c := by simpa using h
    show _ + nA r 0 = nA (x :: r) 0 + _
    rw [nA_zero, nA_zero]
    omega
  | x :: r, i + 1, c, h => by
    show _ + nA r (i + 1) = (_ + nA r i) + _
    rw [nA_succ (R := r) (i := i) (by simpa using h)]
    omega
theorem nA_mono : ∀ (R : List Rec) {i j : Nat}, i ≤ j → nA R i ≤ nA R j
  | [], _, _, _ => Nat.le_refl _
  | x :: r, 0, j, h => by rw [nA_zero]; omega
  | x :: r, i + 1, 0, h => by omega
  | x :: r, i + 1, j + 1, h => by
    have := nA_mono r (i := i) (j := j) (by omega)
    show _ + nA r i ≤ _ + nA r j
    omega
theorem nA_le {R : List Rec} {k : Nat} : ∀ {m : Nat}, m ≤ R.length → (∀ i c, i < m → R[i]? = some c → c.act = true → nA R i < k) → nA R m ≤ k
  | 0, _, _ => by rw [nA_zero]; omega
  | m + 1, hm, h => by
    obtain ⟨c, hc⟩ : ∃ c, R[m]? = some c := ⟨_, List.getElem?_eq_getElem (by omega)⟩
    have h1 := nA_le (m := m) (by omega) fun i c hi => h i c (by omega)
    rw [nA_succ hc]
    by_cases ha : c.act = true
    · have := h m c (by omega) hc ha
      rw [if_pos ha]; omega
    · rw [if_neg ha]; omega
theorem acts_at : ∀ {R : List Rec} {i q a : Nat}, (actsOf R i)[q]? = some a → ∃ j c, a = i + j ∧ R[j]? = some c ∧ c.act = true ∧ nA R j = q
  | [], _, _, _, h => by simp [actsOf] at h
  | x :: r, i, q, a, h => by
    unfold actsOf at h
    cases hx : x.act with
    | true =>
      rw [hx, bsel_t] at h
      cases q with
      | zero => exact ⟨0, x, by have : i = a := by simpa using h
                                omega, rfl, hx, nA_zero _⟩
      | succ q =>
        obtain ⟨j, c, g1, g2, g3, g4⟩ := acts_at (R := r) (by simpa using h)
        refine ⟨j + 1, c, by omega, by simpa using g2, g3, ?_⟩
        show (if x.act = true then 1 else 0) + nA r j = _
        rw [if_pos hx]; omega
    | false =>
      rw [hx, bsel_f] at h
      obtain ⟨j, c, g1, g2, g3, g4⟩ := acts_at (R := r) h
      refine ⟨j + 1, c, by omega, by simpa using g2, g3, ?_⟩
      show (if x.act = true then 1 else 0) + nA r j = _
      rw [hx]; simpa using g4
theorem acts_len : ∀ {R : List Rec} {i : Nat}, (actsOf R i).length = nA R R.length
  | [], _ => rfl
  | x :: r, i => by
    unfold actsOf
    show _ = (if x.act = true then 1 else 0) + nA r r.length
    cases hx : x.act with
    | true => rw [bsel_t, List.length_cons, acts_len, if_pos rfl]; omega
    | false => rw [bsel_f, acts_len]; simp
theorem stages_mem {m i : Nat} {pm : List Nat} : ∀ {A : List Nat} {hs : List St} {k : Nat} {Hk : St}, hs[k]? = some Hk → k ≤ A.length →
    (∀ q a, q < k → A[q]? = some a → bitAt m a = true ∨ ∀ pa, pm[a]? = some pa → bitAt pa i = false) → (∀ a, A[k]? = some a → bitAt m a = false) → Hk ∈ stagesOf m i pm A hs
  | [], [], k, Hk, h, _, _, _ => by simp at h
  | a :: r, [], k, Hk, h, _, _, _ => by simp at h
  | [], H :: hs, k, Hk, h, hk, _, _ => by
    obtain rfl : k = 0 := by simpa using hk
    obtain rfl : H = Hk := by simpa using h
    exact List.mem_singleton.2 rfl
  | a :: r, H :: hs, 0, Hk, h, hk, h1, h2 => by
    obtain rfl : H = Hk := by simpa using h
    unfold stagesOf
    rw [h2 a rfl, bsel_f]
    exact List.mem_cons_self ..
  | a :: r, H :: hs, k + 1, Hk, h, hk, h1, h2 => by
    have hrec := stages_mem (m := m) (i := i) (pm := pm) (A := r) (hs := hs) (k := k) (Hk := Hk) (by simpa using h) (by simpa using hk) (fun q b hq hb => h1 (q + 1) b (by omega) (by simpa using hb)) fun b hb => h2 b (by simpa using hb)
    unfold stagesOf
    cases hm : bitAt m a with
    | true => rw [bsel_t]; exact hrec
    | false =>
      rw [bsel_f]
      have hno : osel (nth pm a) false (fun q => bitAt q i) = false := by
        rw [nth_eq]
        rcases h1 0 a (by omega) rfl with g | g
        · rw [hm] at g; cases g
        · cases hp : pm[a]? with
          | none => rfl
          | some pa => exact g pa hp
      rw [hno, bsel_f]
      exact List.mem_cons_of_mem _ hrec
theorem same_mem {P : Tb} {L : Ls} {s : Lc} {o : Oper} {v : Value} : ∀ {l : List St} {H : St}, sameAt P L s o v l = true → H ∈ l → bndsO s L H o = true ∧ didV v H (execT o.op P s L H o) = true
  | [], _, _, h => by cases h
  | x :: r, H, h, hm => by
    obtain ⟨h1, h2⟩ := bsel_and h
    rcases List.mem_cons.1 hm with rfl | hm
    · exact bsel_and h1
    · exact same_mem h2 hm
theorem quiet_at {P : Tb} {all : List Oper} {L : Ls} {s : Lc} {pm acts : List Nat} {hs : List St} : ∀ {R : List Rec} {i : Nat}, quietOk P all L s pm acts hs R i = true → ∀ {j : Nat} {c : Rec}, R[j]? = some c → c.act = false → c.skip = false → looks c.o = true →
    readsS all (pm.getD (i + j) 0) c.o.op.operands.toList = true ∧ sameAt P L s c.o c.v (stagesOf (pm.getD (i + j) 0) (i + j) pm acts hs) = true
  | [], _, _, _, _, h, _, _, _ => by simp at h
  | x :: r, i, h, j, c, hj, ha, hs, hl => by
    obtain ⟨h1, h2⟩ := bsel_and h
    cases j with
    | zero =>
      obtain rfl : x = c := by simpa using hj
      rw [ha, bsel_f, hs, bsel_f, hl, bsel_t] at h1
      exact bsel_and h1
    | succ j =>
      have := quiet_at h2 (j := j) (by simpa using hj) ha hs hl
      rwa [show Nat.succ i + j = i + (j + 1) by omega] at this

/-- what a temporary holds at a place of the canonical run: what was written there last, or what it held at first -/
def Wr (R : List Rec) (i : Nat) (L : Ls) (s : Lc) (Li : Ls) (si : Lc) : Prop := ∀ t u, getT si Li t = some u →
  (∃ j c, j < i ∧ R[j]? = some c ∧ c.o.dst = some t ∧ c.v = u) ∨ ((∀ j c, j < i → R[j]? = some c → c.o.dst ≠ some t) ∧ getT s L t = some u)
theorem Wr.step {R : List Rec} {i : Nat} {L L1 Li : Ls} {s s1 si : Lc} {c : Rec} (h : Wr R i L1 s1 Li si) (hp : PutR L s c.v c.o.dst L1 s1) : Wr (c :: R) (i + 1) L s Li si := fun t u hu => by
  rcases h t u hu with ⟨j, c', h1, h2, h3⟩ | ⟨h1, h2⟩
  · exact .inl ⟨j + 1, c', by omega, by simpa using h2, h3⟩
  · rcases hp.get t u h2 with ⟨g1, g2⟩ | ⟨g1, g2⟩
    · exact .inl ⟨0, c, by omega, rfl, g1, g2.symm⟩
    · refine .inr ⟨fun j c' hj hc => ?_, g2⟩
      cases j with
      | zero => obtain rfl : c = c' := by simpa using hc
                exact g1
      | succ j => exact h1 j c' (by omega) (by simpa using hc)
theorem Wr.zero {R : List Rec} {L : Ls} {s : Lc} : Wr R 0 L s L s := fun t u hu => .inr ⟨fun j c hj => by omega, hu⟩
structure StepAt (P : Tb) (all : Array Oper) (R : List Rec) (HS : List St) (L : Ls) (s : Lc) (i : Nat) (c : Rec) : Prop where
  ex : ∃ Li si Hi H1, Does P all si Li Hi c H1 ∧ HS[nA R i]? = some Hi ∧ (c.act = true → HS[nA R i + 1]? = some H1) ∧ si.ng = s.ng ∧ Wr R i L s Li si
  lt : ∀ t, c.o.dst = some t → t < s.N
theorem Tr.facts {P : Tb} {all : Array Oper} {l : List Oper} {R : List Rec} {hh : List St} {L LF : Ls} {s sF : Lc} {H HF : St} (h : Tr P all l R hh L s H LF sF HF) :
    l = R.map (·.o) ∧ (∀ i c, R[i]? = some c → StepAt P all R (H :: hh) L s i c) ∧ Wr R R.length L s LF sF ∧ (H :: hh)[nA R R.length]? = some HF ∧ hh.length = nA R R.length ∧ sF.N = s.N ∧ sF.D = s.D ∧ sF.ng = s.ng := by
  induction h with
  | nil L s H => exact ⟨rfl, fun i c h => by simp at h, .zero, rfl, rfl, rfl, rfl, rfl⟩
  | @quiet o r c rs hs L L1 LF s s1 sF H HF ho ha hd hp _ ih =>
    subst ho
    obtain ⟨i1, i2, i3, i4, i5, i6, i7, i8⟩ := ih
    have e : ∀ i, nA (c :: rs) (i + 1) = nA rs i := fun i => by show (if c.act = true then 1 else 0) + nA rs i = _; rw [ha]; simp
    refine ⟨by rw [i1]; rfl, fun i c' hc => ?_, i3.step hp, by rw [List.length_cons, e]; exact i4, by rw [List.length_cons, e]; exact i5, i6.trans hp.N, i7.trans hp.D, i8.trans hp.ng⟩
    cases i with
    | zero =>
      obtain rfl : c = c' := by simpa using hc
      exact ⟨⟨L, s, H, H, hd, by rw [nA_zero]; rfl, fun h => (by rw [ha] at h; cases h), rfl, .zero⟩, hp.lt⟩
    | succ i =>
      obtain ⟨⟨Li, si, Hi, H1, g1, g2, g3, g4, g5⟩, g6⟩ := i2 i c' (by simpa using hc)
      exact ⟨⟨Li, si, Hi, H1, g1, by rw [e]; exact g2, fun h => by rw [e]; exact g3 h, g4.trans hp.ng, g5.step hp⟩, fun t ht => by rw [← hp.N]; exact g6 t ht⟩
  | @act o r c rs hs L L1 LF s s1 sF H H1 HF ho ha hd hp _ ih =>
    subst ho
    obtain ⟨i1, i2, i3, i4, i5, i6, i7, i8⟩ := ih
    have e : ∀ i, nA (c :: rs) (i + 1) = nA rs i + 1 := fun i => by show (if c.act = true then 1 else 0) + nA rs i = _; rw [if_pos ha]; omega
    refine ⟨by rw [i1]; rfl, fun i c' hc => ?_, i3.step hp, by rw [List.length_cons, e]; simpa using i4, by rw [List.length_cons, List.length_cons, e, i5], i6.trans hp.N, i7.trans hp.D, i8.trans hp.ng⟩
    cases i with
    | zero =>
      obtain rfl : c = c' := by simpa using hc
      exact ⟨⟨L, s, H, H1, hd, by rw [nA_zero]; rfl, fun _ => by rw [nA_zero]; rfl, rfl, .zero⟩, hp.lt⟩
    | succ i =>
      obtain ⟨⟨Li, si, Hi, H2, g1, g2, g3, g4, g5⟩, g6⟩ := i2 i c' (by simpa using hc)
      exact ⟨⟨Li, si, Hi, H2, g1, by rw [e]; simpa using g2, fun h => by rw [e]; simpa using g3 h, g4.trans hp.ng, g5.step hp⟩, fun t ht => by rw [← hp.N]; exact g6 t ht⟩
end Go.Proofs.YthgjjogleklmcaaGreatDoor.Ev
