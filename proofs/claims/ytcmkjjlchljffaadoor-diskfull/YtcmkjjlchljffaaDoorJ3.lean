/- Joined texts of the proof. -/
import Derived.Test.YtcmkjjlchljffaaDoorJ2

/- Disks stay fine: the mathematics of the calls. -/
namespace Go.Proofs.YtcmkjjlchljffaaDoor
open Go.RowKit
set_option linter.unusedVariables false

theorem bl_irr : ∀ x : List UInt8, Op.bytesLess x x = false
  | [] => rfl
  | a :: x => by simp [Op.bytesLess, bl_irr x]
theorem bl_trans : ∀ {x y z : List UInt8}, Op.bytesLess x y = true → Op.bytesLess y z = true → Op.bytesLess x z = true
  | x, [], z, h, _ => by cases x <;> simp [Op.bytesLess] at h
  | x, _ :: _, [], _, h => by simp [Op.bytesLess] at h
  | [], _ :: _, _ :: _, _, _ => rfl
  | a :: x, b :: y, c :: z, h1, h2 => by
    simp only [Op.bytesLess, Bool.or_eq_true, decide_eq_true_eq, Bool.and_eq_true, beq_iff_eq] at h1 h2 ⊢
    rcases h1 with h1 | ⟨rfl, h1⟩
    · rcases h2 with h2 | ⟨rfl, h2⟩
      · exact .inl (UInt8.lt_trans h1 h2)
      · exact .inl h1
    · rcases h2 with h2 | ⟨rfl, h2⟩
      · exact .inl h2
      · exact .inr ⟨rfl, bl_trans h1 h2⟩
theorem bl_total : ∀ {x y : List UInt8}, Op.bytesLess x y = false → x ≠ y → Op.bytesLess y x = true
  | [], [], _, h => absurd rfl h
  | [], _ :: _, h, _ => by simp [Op.bytesLess] at h
  | _ :: _, [], _, _ => rfl
  | a :: x, b :: y, h, hne => by
    simp only [Op.bytesLess, Bool.or_eq_false_iff, decide_eq_false_iff_not, Bool.and_eq_false_imp, beq_iff_eq] at h
    simp only [Op.bytesLess, Bool.or_eq_true, decide_eq_true_eq, Bool.and_eq_true, beq_iff_eq]
    by_cases hab : a = b
    · subst hab
      exact .inr ⟨rfl, bl_total (h.2 rfl) fun e => hne (by rw [e])⟩
    · left
      rcases UInt8.lt_or_lt_of_ne hab with q | q
      · exact absurd q h.1
      · exact q
theorem ltN_irr (a : ByteArray) : ltN a a = false := bl_irr _
theorem ltN_trans {a b c : ByteArray} (h1 : ltN a b = true) (h2 : ltN b c = true) : ltN a c = true := bl_trans h1 h2
theorem insL_mem {f : Fi} : ∀ {fs : List Fi} {x : Fi}, x ∈ insL f fs → x = f ∨ x ∈ fs
  | [], x, h => by simp [insL] at h; exact .inl h
  | a :: fs, x, h => by
    unfold insL at h
    split at h
    · rcases List.mem_cons.1 h with h | h
      · exact .inl h
      · exact .inr h
    · rcases List.mem_cons.1 h with h | h
      · exact .inr (h ▸ List.mem_cons_self)
      · exact (insL_mem h).imp id (List.mem_cons_of_mem _)
theorem insL_sorted {f : Fi} : ∀ {fs : List Fi}, Sorted fs → (∀ x ∈ fs, isN f.nm x = false) → Sorted (insL f fs)
  | [], _, _ => List.pairwise_singleton _ _
  | a :: fs, hs, hn => by
    have hs' := List.pairwise_cons.1 hs
    unfold insL
    split
    · rename_i hl
      refine List.pairwise_cons.2 ⟨fun x hx => ?_, hs⟩
      rcases List.mem_cons.1 hx with rfl | hx
      · exact hl
      · exact ltN_trans hl (hs'.1 x hx)
    · rename_i hl
      refine List.pairwise_cons.2 ⟨fun x hx => ?_, insL_sorted hs'.2 fun x hx => hn x (List.mem_cons_of_mem _ hx)⟩
      rcases insL_mem hx with rfl | hx
      · refine bl_total (Bool.eq_false_iff.2 hl) fun e => ?_
        have := hn a List.mem_cons_self
        simp [isN, e] at this
      · exact hs'.1 x hx
theorem setL_nm {nm : ByteArray} {u : Fi → Fi} (hu : ∀ f, (u f).nm = f.nm) : ∀ fs : List Fi, (setL nm u fs).map Fi.nm = fs.map Fi.nm
  | [] => rfl
  | a :: fs => by
    unfold setL
    split
    · simp [hu]
    · simp [setL_nm hu fs]
theorem sorted_nm {fs gs : List Fi} (h : gs.map Fi.nm = fs.map Fi.nm) (hs : Sorted fs) : Sorted gs := by
  have e : ∀ l : List Fi, Sorted l ↔ (l.map Fi.nm).Pairwise fun a b => ltN a b = true := fun l => by unfold Sorted; rw [List.pairwise_map]
  rw [e] at hs ⊢
  rw [h]
  exact hs
theorem setL_sorted {nm : ByteArray} {u : Fi → Fi} (hu : ∀ f, (u f).nm = f.nm) {fs : List Fi} (h : Sorted fs) : Sorted (setL nm u fs) := sorted_nm (setL_nm hu fs) h
theorem filter_sorted {p : Fi → Bool} {fs : List Fi} (h : Sorted fs) : Sorted (fs.filter p) := h.filter p
theorem usedL_cons (a : Fi) (fs : List Fi) : usedL (a :: fs) = a.bs.length + usedL fs := by simp [usedL]
theorem insL_used (f : Fi) : ∀ fs : List Fi, usedL (insL f fs) = f.bs.length + usedL fs
  | [] => by simp [insL, usedL]
  | a :: fs => by
    unfold insL
    split
    · rw [usedL_cons]
    · rw [usedL_cons, usedL_cons, insL_used f fs]; omega
theorem insL_len (f : Fi) : ∀ fs : List Fi, (insL f fs).length = fs.length + 1
  | [] => rfl
  | a :: fs => by
    unfold insL
    split
    · rfl
    · simp [insL_len f fs]
theorem setL_used {nm : ByteArray} {u : Fi → Fi} : ∀ {fs : List Fi} {f : Fi}, fs.find? (isN nm) = some f → usedL (setL nm u fs) + f.bs.length = usedL fs + (u f).bs.length
  | a :: fs, f, h => by
    unfold setL
    cases hb : isN nm a with
    | true =>
      rw [List.find?_cons_of_pos hb] at h
      cases h
      simp only [if_true]
      rw [usedL_cons, usedL_cons]
      omega
    | false =>
      rw [List.find?_cons_of_neg (by rw [hb]; simp)] at h
      have := setL_used (u := u) h
      simp only [Bool.false_eq_true, if_false]
      rw [usedL_cons, usedL_cons]
      omega
theorem setL_len {nm : ByteArray} {u : Fi → Fi} : ∀ fs : List Fi, (setL nm u fs).length = fs.length
  | [] => rfl
  | a :: fs => by unfold setL; split <;> simp [setL_len fs]
theorem setL_mem {nm : ByteArray} {u : Fi → Fi} : ∀ {fs : List Fi} {x : Fi}, x ∈ setL nm u fs → x ∈ fs ∨ ∃ f, fs.find? (isN nm) = some f ∧ x = u f
  | a :: fs, x, h => by
    unfold setL at h
    cases hb : isN nm a with
    | true =>
      rw [hb] at h
      simp only [if_true] at h
      rcases List.mem_cons.1 h with h | h
      · exact .inr ⟨a, List.find?_cons_of_pos hb, h⟩
      · exact .inl (List.mem_cons_of_mem _ h)
    | false =>
      rw [hb] at h
      simp only [Bool.false_eq_true, if_false] at h
      rcases List.mem_cons.1 h with h | h
      · exact .inl (h ▸ List.mem_cons_self)
      · rcases setL_mem h with h | ⟨f, h1, h2⟩
        · exact .inl (List.mem_cons_of_mem _ h)
        · exact .inr ⟨f, by rw [List.find?_cons_of_neg (by rw [hb]; simp)]; exact h1, h2⟩
theorem filter_used (p : Fi → Bool) : ∀ fs : List Fi, usedL (fs.filter p) ≤ usedL fs
  | [] => Nat.le_refl _
  | a :: fs => by
    have := filter_used p fs
    by_cases h : p a = true
    · rw [List.filter_cons_of_pos h, usedL_cons, usedL_cons]; omega
    · rw [List.filter_cons_of_neg h, usedL_cons]; omega
theorem filter_used2 {p : Fi → Bool} {f : Fi} : ∀ {fs : List Fi}, f ∈ fs → p f = false → usedL (fs.filter p) + f.bs.length ≤ usedL fs ∧ (fs.filter p).length + 1 ≤ fs.length
  | a :: fs, hm, hf => by
    by_cases h : p a = true
    · rcases List.mem_cons.1 hm with rfl | hm
      · rw [hf] at h; cases h
      · obtain ⟨h1, h2⟩ := filter_used2 hm hf
        rw [List.filter_cons_of_pos h, usedL_cons, usedL_cons, List.length_cons, List.length_cons]
        exact ⟨by omega, by omega⟩
    · rw [List.filter_cons_of_neg h, usedL_cons, List.length_cons]
      have h3 := filter_used p fs
      have h4 := List.length_filter_le p fs
      rcases List.mem_cons.1 hm with rfl | hm
      · exact ⟨by omega, by omega⟩
      · obtain ⟨h1, h2⟩ := filter_used2 hm hf
        exact ⟨by omega, by omega⟩
/-- A disk that is fine, and whose names rise; so many writes at most were done. -/
structure Gd (n : Nat) (d : Dk) : Prop where
  sz : d.sz ≤ 67108864
  us : usedL d.fs ≤ d.sz
  ln : d.fs.length ≤ 256
  lf : -1 ≤ d.lf
  lg : d.lf ≤ 9223372036854775807
  wr : d.wr ≤ n
  sf : ∀ f ∈ d.fs, f.sf ≤ f.bs.length
  so : Sorted d.fs
theorem Gd.fine {n : Nat} {d : Dk} (h : Gd n d) (hn : n ≤ 4611686018427387904) : Fine d := ⟨h.sz, h.us, h.ln, h.lf, h.lg, by have := h.wr; omega, h.sf⟩
theorem Gd.more {n m : Nat} {d : Dk} (h : Gd n d) (hn : n ≤ m) : Gd m d := ⟨h.sz, h.us, h.ln, h.lf, h.lg, Nat.le_trans h.wr hn, h.sf, h.so⟩
theorem Gd.pw {n : Nat} {d : Dk} (h : Gd n d) {fs : List Fi} (h1 : usedL fs ≤ d.sz) (h2 : fs.length ≤ 256) (h3 : ∀ f ∈ fs, f.sf ≤ f.bs.length) (h4 : Sorted fs) : Gd (n + 1) { pwD d with fs := fs } := by
  have h5 := h.lf
  have h6 := h.lg
  have h7 := h.wr
  refine ⟨h.sz, h1, h2, ?_, ?_, ?_, h3, h4⟩
  · show -1 ≤ (if 0 < d.lf then d.lf - 1 else d.lf)
    split <;> omega
  · show (if 0 < d.lf then d.lf - 1 else d.lf) ≤ _
    split <;> omega
  · show d.wr + 1 ≤ n + 1
    omega
section
variable {n : Nat} {d : Dk} {nm to : ByteArray} {z : Int} {b : List UInt8} {torn : List Int}
theorem find_mem {fs : List Fi} {f : Fi} (h : fs.find? (isN nm) = some f) : f ∈ fs ∧ isN nm f = true := ⟨List.mem_of_find?_eq_some h, List.find?_some h⟩
theorem gd_ap (h : Gd n d) : Gd (n + 1) (apO d nm b).1 := by
  unfold apO
  split
  · exact h.more (Nat.le_succ _)
  split
  · exact h.more (Nat.le_succ _)
  rename_i hnb
  split
  · exact h.more (Nat.le_succ _)
  have hu : usedL d.fs + b.length ≤ d.sz := Nat.le_of_not_lt fun q => hnb (.inr q)
  cases hf : d.fs.find? (isN nm) with
  | none =>
    have hl : d.fs.length < 256 := Nat.lt_of_not_le fun q => hnb (.inl ⟨hf, q⟩)
    have e : hasL nm d.fs = insL (fil0 nm) d.fs := by rw [hasL, hf]; rfl
    have hfi := insL_find hf
    rw [e]
    refine h.pw ?_ ?_ ?_ ?_
    · have := setL_used (u := fun f => { f with bs := f.bs ++ b }) hfi
      have e2 : usedL (insL (fil0 nm) d.fs) = usedL d.fs := by rw [insL_used]; exact Nat.zero_add _
      simp only [List.length_append] at this
      omega
    · rw [setL_len, insL_len]; omega
    · intro x hx
      rcases setL_mem hx with hx | ⟨f, h1, rfl⟩
      · rcases insL_mem hx with rfl | hx
        · exact Nat.le_refl _
        · exact h.sf x hx
      · rw [hfi] at h1
        cases h1
        exact Nat.zero_le _
    · refine setL_sorted ?_ (insL_sorted h.so fun x hx => ?_)
      · intro f; rfl
      have := List.find?_eq_none.1 hf x hx
      exact Bool.eq_false_iff.2 this
  | some f =>
    have e : hasL nm d.fs = d.fs := by rw [hasL, hf]; rfl
    rw [e]
    refine h.pw ?_ (by rw [setL_len]; exact h.ln) ?_ (by refine setL_sorted ?_ h.so; intro f; rfl)
    · have := setL_used (u := fun f => { f with bs := f.bs ++ b }) hf
      simp only [List.length_append] at this
      omega
    · intro x hx
      rcases setL_mem hx with hx | ⟨g, h1, rfl⟩
      · exact h.sf x hx
      · have := h.sf g (find_mem h1).1
        simp only [List.length_append]
        omega
theorem gd_ct (h : Gd n d) : Gd (n + 1) (ctO d nm z).1 := by
  unfold ctO
  split
  · exact h.more (Nat.le_succ _)
  rename_i f hf
  split
  · exact h.more (Nat.le_succ _)
  rename_i hz
  split
  · exact h.more (Nat.le_succ _)
  split
  · exact h.more (Nat.le_succ _)
  refine h.pw ?_ (by rw [setL_len]; exact h.ln) ?_ (by refine setL_sorted ?_ h.so; intro f; rfl)
  · have := setL_used (u := fun f => { f with bs := f.bs.take z.toNat, sf := z.toNat, hd := true }) hf
    have h1 := h.us
    simp only [List.length_take] at this
    omega
  · intro x hx
    rcases setL_mem hx with hx | ⟨g, h1, rfl⟩
    · exact h.sf x hx
    · rw [hf] at h1
      cases h1
      simp only [List.length_take]
      omega
theorem gd_sy (h : Gd n d) : Gd (n + 1) (syO d nm).1 := by
  unfold syO
  split
  · exact h.more (Nat.le_succ _)
  rename_i hf0
  split
  · exact h.more (Nat.le_succ _)
  cases hf : d.fs.find? (isN nm) with
  | none => rw [hf] at hf0; exact absurd rfl hf0
  | some f =>
    refine h.pw ?_ (by rw [setL_len]; exact h.ln) ?_ (by refine setL_sorted ?_ h.so; intro f; rfl)
    · have := setL_used (u := fun f => { f with sf := f.bs.length, hd := true }) hf
      have h1 := h.us
      simp only at this
      omega
    · intro x hx
      rcases setL_mem hx with hx | ⟨g, h1, rfl⟩
      · exact h.sf x hx
      · exact Nat.le_refl _
theorem gd_rm (h : Gd n d) : Gd (n + 1) (rmO d nm).1 := by
  unfold rmO
  split
  · exact h.more (Nat.le_succ _)
  split
  · exact h.more (Nat.le_succ _)
  exact h.pw (Nat.le_trans (filter_used _ _) h.us) (Nat.le_trans (List.length_filter_le _ _) h.ln) (fun x hx => h.sf x (List.mem_filter.1 hx).1) (filter_sorted h.so)
theorem gd_rn (h : Gd n d) : Gd (n + 1) (rnO d nm to).1 := by
  unfold rnO
  split
  · exact h.more (Nat.le_succ _)
  split
  · exact h.more (Nat.le_succ _)
  rename_i f hf
  split
  · exact h.more (Nat.le_succ _)
  split
  · exact h.more (Nat.le_succ _)
  split
  · exact h.pw h.us h.ln h.sf h.so
  obtain ⟨hm, hn⟩ := find_mem hf
  obtain ⟨u1, u2⟩ := filter_used2 (p := fun f => !isN nm f) hm (by rw [hn]; rfl)
  have u3 := filter_used (fun f => !isN to f) (d.fs.filter fun f => !isN nm f)
  have u4 := List.length_filter_le (fun f => !isN to f) (d.fs.filter fun f => !isN nm f)
  have h1 := h.us
  have h2 := h.ln
  refine h.pw (fs := insL { f with nm := to, hd := true } ((d.fs.filter fun f => !isN nm f).filter fun f => !isN to f)) ?_ ?_ ?_ ?_
  · rw [insL_used]
    show f.bs.length + _ ≤ _
    omega
  · rw [insL_len]
    omega
  · intro x hx
    rcases insL_mem hx with rfl | hx
    · exact h.sf f hm
    · exact h.sf x (List.mem_filter.1 (List.mem_filter.1 hx).1).1
  · refine insL_sorted (filter_sorted (filter_sorted h.so)) fun x hx => ?_
    have := (List.mem_filter.1 hx).2
    simpa using this
theorem gd_st (h : Gd n d) (hz : z ≤ 9223372036854775807) : Gd (n + 1) (stD d z) := by
  unfold stD
  split
  · exact h.more (Nat.le_succ _)
  refine ⟨h.sz, h.us, h.ln, ?_, ?_, Nat.le_succ_of_le h.wr, h.sf, h.so⟩
  · show -1 ≤ (if d.lf = 0 then 0 else z)
    split <;> omega
  · show (if d.lf = 0 then 0 else z) ≤ _
    split <;> omega
theorem crOne_ok (torn : List Int) (k : Nat) (f : Fi) (hf : f.sf ≤ f.bs.length) : (crOne torn k f).1.sf ≤ (crOne torn k f).1.bs.length ∧ (crOne torn k f).1.bs.length ≤ f.bs.length ∧ (crOne torn k f).1.nm = f.nm := by
  unfold crOne
  split
  · exact ⟨Nat.le_refl _, by simp only [List.length_take]; omega, rfl⟩
  · exact ⟨hf, Nat.le_refl _, rfl⟩
theorem crL_ok (torn : List Int) : ∀ (fs : List Fi) (k : Nat), (∀ f ∈ fs, f.sf ≤ f.bs.length) → Sorted fs → usedL (crL torn k fs) ≤ usedL fs ∧ (crL torn k fs).length ≤ fs.length ∧ (∀ x ∈ crL torn k fs, x.sf ≤ x.bs.length ∧ ∃ f ∈ fs, x.nm = f.nm) ∧ Sorted (crL torn k fs)
  | [], _, _, _ => ⟨Nat.le_refl _, Nat.le_refl _, fun x h => (by cases h), List.Pairwise.nil⟩
  | f :: fs, k, hf, hs => by
    have hs' := List.pairwise_cons.1 hs
    obtain ⟨q1, q2, q3⟩ := crOne_ok torn k f (hf f List.mem_cons_self)
    obtain ⟨i1, i2, i3, i4⟩ := crL_ok torn fs (crOne torn k f).2 (fun x hx => hf x (List.mem_cons_of_mem _ hx)) hs'.2
    unfold crL
    split
    · rw [List.singleton_append]
      refine ⟨?_, ?_, ?_, ?_⟩
      · rw [usedL_cons, usedL_cons]
        show (crOne torn k f).1.bs.length + _ ≤ _
        omega
      · rw [List.length_cons, List.length_cons]; omega
      · intro x hx
        rcases List.mem_cons.1 hx with rfl | hx
        · exact ⟨q1, f, List.mem_cons_self, q3⟩
        · obtain ⟨j1, g, j2, j3⟩ := i3 x hx
          exact ⟨j1, g, List.mem_cons_of_mem _ j2, j3⟩
      · refine List.pairwise_cons.2 ⟨fun x hx => ?_, i4⟩
        obtain ⟨_, g, j2, j3⟩ := i3 x hx
        show ltN (crOne torn k f).1.nm x.nm = true
        rw [q3, j3]
        exact hs'.1 g j2
    · rw [List.nil_append]
      refine ⟨by rw [usedL_cons]; omega, by rw [List.length_cons]; omega, fun x hx => ?_, i4⟩
      obtain ⟨j1, g, j2, j3⟩ := i3 x hx
      exact ⟨j1, g, List.mem_cons_of_mem _ j2, j3⟩
theorem gd_cr (h : Gd n d) : Gd (n + 1) (crD d torn) := by
  obtain ⟨q1, q2, q3, q4⟩ := crL_ok torn d.fs 0 h.sf h.so
  exact ⟨h.sz, Nat.le_trans q1 h.us, Nat.le_trans q2 h.ln, Int.le_refl _, by show (-1 : Int) ≤ _; omega, Nat.le_succ_of_le h.wr, fun x hx => (q3 x hx).1, q4⟩
theorem gd_ac (h : Gd n d) (a : Ac) (hz : a.z ≤ 9223372036854775807) : Gd (n + 1) (acD d a) := by
  unfold acD
  split
  · exact gd_ap h
  split
  · exact gd_ct h
  split
  · exact gd_sy h
  split
  · exact gd_rn h
  split
  · exact gd_rm h
  split
  · exact gd_st h hz
  split
  · exact gd_cr h
  · exact h.more (Nat.le_succ _)
end
end Go.Proofs.YtcmkjjlchljffaaDoor

/- Pairs of disks, the program's and the given answer's; two pairs, of which one may be the other. -/
namespace Go.Proofs.YtcmkjjlchljffaaDoor
open Go.RowKit
set_option linter.unusedVariables false

section
variable {U : Prop} {CD : CDT} {B gc gr oc og n m : Nat} {w w' : World} {W F W' F' S : Nat → Prop} {D : Dk}
/-- A new disk of the given answer's. -/
theorem RD.new {g z : Nat} (hB : B ≤ g) (hA : At 61 w g [.int .i64 (z : Int), .slice none 0 0, .int .i64 (-1), .int .i64 0]) : RD B w g (fun k => k = g) (fun k => k = g) ⟨z, [], -1, 0⟩ :=
  ⟨.slice none 0 0, [], hA, OwnX.nil _ _ _, rfl, fun f h => (by cases h), rfl, fun k h => (by cases h), fun k h => ⟨h, by omega⟩, fun k h => by rw [h]; exact hA.lt⟩
end
end Go.Proofs.YtcmkjjlchljffaaDoor

/- DiskScript, given what the program's disk tells. -/
namespace Go.Proofs.YtcmkjjlchljffaaDoor
open Go.RowKit
set_option linter.unusedVariables false

theorem AT.one (a : AT) : ∀ v ∈ a.cells, v.oneCell' = true := by
  intro v hv
  simp [AT.cells] at hv
  rcases hv with rfl | rfl | rfl | rfl | rfl | rfl <;> rfl
def eA : El AT := ⟨51, 84, 6, 96, .agg #[.int .i64 0, .string ⟨#[]⟩, .string ⟨#[]⟩, .int .i64 0, .slice none 0 0, .slice none 0 0], AT.cells, fun _ => rfl, AT.one, by kernel_rfl, by kernel_rfl, rfl, by decide⟩
theorem i33 : (Tryd.prog.info? 84).map (·.size) = some 6 := by kernel_rfl
theorem z33 : (Tryd.prog.info? 84).map (fun i => (i.zero, i.size)) = some (some (.agg [Value.int .i64 0, .string ⟨#[]⟩, .string ⟨#[]⟩, .int .i64 0, .slice none 0 0, .slice none 0 0].toArray), 6) := by kernel_rfl
theorem wpList_loadA {ops : Array Oper} {rest : List Oper} {o : Oper} {a : Act} {w : World} {Q : Exit → Act → World → Prop} (hgd : o.guard = none) (x : Operand) (ho : o.op = .load 84 x)
    (k off : Nat) (t : AT) (hx : a.eval x = .pointer (some ⟨k, off, none⟩)) (hr : w.rangeAt k off t.cells)
    (h : wpList Tryd.prog ops Q rest (a.put o.dst (.agg t.cells.toArray)) w) : wpList Tryd.prog ops Q (o :: rest) a w := by
  obtain ⟨d, h1, h2⟩ := u33
  exact wpList_load_mid hgd 84 x ho k off hx t.cells d hr h1 h2 i33 h
/-- A call that came in, however long its rows are. -/
structure AT.In0 (B : Nat) (w : World) (a : AT) : Prop where
  rb : Row w a.ba a.ac.b
  lb : a.ac.b.length ≤ a.bc
  nb : a.ba = none → a.bc = 0
  bb : a.ac.b ≠ [] → ∀ ad, a.ba = some ad → ad.block < B
  rt : RowX eI w a.ta a.ac.torn
  lt : a.ac.torn.length ≤ a.tc
  nt : a.ta = none → a.tc = 0
  tt : a.ac.torn ≠ [] → ∀ ad, a.ta = some ad → ad.block < B
  l3 : a.ac.nm.size ≤ 9223372036854775807
  l4 : a.ac.to.size ≤ 9223372036854775807
theorem AT.In0.to {B : Nat} {w : World} {a : AT} (h : a.In0 B w) (h1 : a.ac.b.length ≤ 1099511627776) (h2 : a.ac.torn.length ≤ 1099511627776) : a.In B w :=
  ⟨h.rb, h.lb, h.nb, h.bb, h.rt, h.lt, h.nt, h.tt, h1, h2, h.l3, h.l4⟩
theorem AT.In0.below {B : Nat} {w w' : World} {a : AT} (h : a.In0 B w) (hb : Below B w w') : a.In0 B w' :=
  ⟨h.rb.same0 fun q ad ha => hb.block _ (h.bb q ad ha), h.lb, h.nb, h.bb, h.rt.same0 fun q ad ha => hb.block _ (h.tt q ad ha), h.lt, h.nt, h.tt, h.l3, h.l4⟩
/-- Calls that came in. -/
structure ActsIn (w : World) (aa : Option Addr) (al : List AT) : Prop where
  row : RowX eA w aa al
  bb : ∀ ad, aa = some ad → ad.block < w.heap.size
  ins : ∀ a ∈ al, a.In0 w.heap.size w ∧ a.ac.z ≤ 9223372036854775807
end Go.Proofs.YtcmkjjlchljffaaDoor

/- One disk of the program's, call by call; awake. -/
namespace Go.Proofs.YtcmkjjlchljffaaDoor
open Go.RowKit
set_option linter.unusedVariables false

/-- The program's disk is D. -/
def Sta (CD : CDT) (B : Nat) (w : World) (g n : Nat) (D : Dk) (S : Nat → Prop) : Prop := ∃ W F, CD B w g W F D ∧ Gd n D ∧ ∀ k, S k → ¬ F k ∧ k < w.heap.size
/-- Blocks that stand. -/
def Std (S : Nat → Prop) (x x' : World) : Prop := ∀ k, S k → x'.heap[k]? = x.heap[k]?
/-- The block of a row that is not empty. -/
def blkS (a : Option Addr) (b : List UInt8) : Nat → Prop := fun k => b ≠ [] ∧ ∃ ad, a = some ad ∧ ad.block = k
theorem Row.std {x x' : World} {a : Option Addr} {b : List UInt8} {S : Nat → Prop} (h : Row x a b) (hs : Std S x x') (hS : ∀ k, blkS a b k → S k) : Row x' a b := by
  by_cases hb : b = []
  · exact .inl hb
  · exact h.same fun ad ha => hs _ (hS _ ⟨hb, ad, ha, rfl⟩)
section
variable {U : Prop} {CD : CDT} {B g n e : Nat} {x x' : World} {D D' : Dk} {nm to : ByteArray} {z : Int} {S : Nat → Prop}
theorem Sta.below (Fa : Face U CD) (h : Sta CD B x g n D S) (hb : Below x.heap.size x x') : Sta CD B x' g n D S := by
  obtain ⟨W, F, h1, h2, h3⟩ := h
  exact ⟨W, F, Fa.below h1 hb, h2, fun k hk => ⟨(h3 k hk).1, Nat.lt_of_lt_of_le (h3 k hk).2 hb.size⟩⟩
theorem Sta.std (h : Sta CD B x g n D S) (hb : Below x.heap.size x x') : Std S x x' := by
  obtain ⟨W, F, h1, h2, h3⟩ := h
  exact fun k hk => hb.block k (h3 k hk).2
theorem sta_of {W F : Nat → Prop} {o : Dk × Int} {r : Ending} (Fa : Face U CD) (h1 : CD B x g W F D) (hB : B ≤ x.heap.size) (hS : ∀ k, S k → ¬ F k ∧ k < x.heap.size) (hg : Gd (n + 1) o.1) (h : PostC CD B g W F x o r x') : r = .returned (.int .i64 o.2) ∧ Sta CD B x' g (n + 1) o.1 S ∧ Below B x x' ∧ Std S x x' := by
  obtain ⟨rfl, W', F', q1, q2⟩ := h
  exact ⟨rfl, ⟨W', F', q1, hg, fun k hk => ⟨fun q => (q2.rd k q).elim (hS k hk).1 (by have := (hS k hk).2; omega), Nat.lt_of_lt_of_le (hS k hk).2 q2.chg.size⟩⟩, q2.chg.below hB fun k hk => (Fa.wf h1 k hk).2, fun k hk => q2.chg.block k (hS k hk).2 fun q => (hS k hk).1 (Fa.wf h1 k q).1⟩
theorem Sta.app (Fa : Face U CD) {W : Nat → Prop} {cs : List Value} {b : List UInt8} {o : Dk × Int} (h : Sta CD B x g n D S) (hB : B ≤ x.heap.size) (hn : n ≤ 1048576) (hs : nm.size ≤ 9223372036854775807) (hc : cs = b.map B8) (hl : b.length ≤ 1048576) (ho : apO D nm b = o) :
    Calls Tryd.prog 10 #[.pointer (some ⟨g, 0, none⟩), .string nm, .slice (some ⟨x.heap.size, 0, none⟩) b.length b.length] (x.alloc (.cells cs.toArray 5)) fun r w' => r = .returned (.int .i64 o.2) ∧ Sta CD B w' g (n + 1) o.1 S ∧ Below B x w' ∧ Std S x w' := by
  obtain ⟨W, F, h1, h2, h3⟩ := h
  have hb : Below x.heap.size x (x.alloc (.cells cs.toArray 5)) := (Below.refl _ x).alloc (Nat.le_refl _) _
  have hA : At 5 (x.alloc (.cells cs.toArray 5)) x.heap.size (b.map B8) := by rw [← hc]; exact _root_.Go.heap_alloc_new x _
  have hc1 := Fa.below h1 hb
  have hrow : Row (x.alloc (.cells cs.toArray 5)) (some ⟨x.heap.size, 0, none⟩) b := Blk.row_all (blk_at.2 hA)
  have hB' := Nat.le_trans hB hb.size
  have hS' : ∀ k, S k → ¬ F k ∧ k < _ := fun k hk => ⟨(h3 k hk).1, Nat.lt_of_lt_of_le (h3 k hk).2 hb.size⟩
  refine (Fa.append (nm := nm) hc1 (h2.fine (by omega)) h2.so hB' hs hrow rfl (Nat.le_refl _) (fun h => by cases h) (by omega) (fun _ ad ha => by cases ha; exact ⟨fun q => by have h9 := Fa.lt h1 _ (Fa.wf h1 _ q).1; exact absurd h9 (Nat.lt_irrefl _), hA.lt⟩)).mono ?_
  rintro r w' hp
  rw [ho] at hp
  obtain ⟨q1, q2, q3, q4⟩ := sta_of (n := n) Fa hc1 hB' hS' (by rw [← ho]; exact gd_ap h2) hp
  exact ⟨q1, q2, (hb.mono hB).trans q3, fun k hk => (q4 k hk).trans (hb.block k (h3 k hk).2)⟩
theorem Sta.sync (Fa : Face U CD) {o : Dk × Int} (h : Sta CD B x g n D S) (hB : B ≤ x.heap.size) (hn : n ≤ 1048576) (hs : nm.size ≤ 9223372036854775807) (ho : syO D nm = o) :
    Calls Tryd.prog 15 #[.pointer (some ⟨g, 0, none⟩), .string nm] x fun r w' => r = .returned (.int .i64 o.2) ∧ Sta CD B w' g (n + 1) o.1 S ∧ Below B x w' ∧ Std S x w' := by
  obtain ⟨W, F, h1, h2, h3⟩ := h
  refine (Fa.sync (nm := nm) h1 (h2.fine (by omega)) h2.so hB hs).mono ?_
  rintro r w' hp
  rw [ho] at hp
  exact sta_of Fa h1 hB h3 (by rw [← ho]; exact gd_sy h2) hp
theorem Sta.cut (Fa : Face U CD) {o : Dk × Int} (h : Sta CD B x g n D S) (hB : B ≤ x.heap.size) (hn : n ≤ 1048576) (hs : nm.size ≤ 9223372036854775807) (ho : ctO D nm z = o) :
    Calls Tryd.prog 14 #[.pointer (some ⟨g, 0, none⟩), .string nm, .int .i64 z] x fun r w' => r = .returned (.int .i64 o.2) ∧ Sta CD B w' g (n + 1) o.1 S ∧ Below B x w' ∧ Std S x w' := by
  obtain ⟨W, F, h1, h2, h3⟩ := h
  refine (Fa.cut (nm := nm) (z := z) h1 (h2.fine (by omega)) h2.so hB hs).mono ?_
  rintro r w' hp
  rw [ho] at hp
  exact sta_of Fa h1 hB h3 (by rw [← ho]; exact gd_ct h2) hp
theorem Sta.rename (Fa : Face U CD) {o : Dk × Int} (h : Sta CD B x g n D S) (hB : B ≤ x.heap.size) (hn : n ≤ 1048576) (hs : nm.size ≤ 9223372036854775807) (ht : to.size ≤ 9223372036854775807) (ho : rnO D nm to = o) :
    Calls Tryd.prog 16 #[.pointer (some ⟨g, 0, none⟩), .string nm, .string to] x fun r w' => r = .returned (.int .i64 o.2) ∧ Sta CD B w' g (n + 1) o.1 S ∧ Below B x w' ∧ Std S x w' := by
  obtain ⟨W, F, h1, h2, h3⟩ := h
  refine (Fa.rename (nm := nm) (to := to) h1 (h2.fine (by omega)) h2.so hB hs ht).mono ?_
  rintro r w' hp
  rw [ho] at hp
  exact sta_of Fa h1 hB h3 (by rw [← ho]; exact gd_rn h2) hp
theorem Sta.stop (Fa : Face U CD) {o : Dk × Int} (h : Sta CD B x g n D S) (hB : B ≤ x.heap.size) (hz : z ≤ 9223372036854775807) (ho : (stD D z, stZ z) = o) :
    Calls Tryd.prog 18 #[.pointer (some ⟨g, 0, none⟩), .int .i64 z] x fun r w' => r = .returned (.int .i64 o.2) ∧ Sta CD B w' g (n + 1) o.1 S ∧ Below B x w' ∧ Std S x w' := by
  obtain ⟨W, F, h1, h2, h3⟩ := h
  refine (Fa.stop (z := z) h1 hB).mono ?_
  rintro r w' hp
  rw [ho] at hp
  exact sta_of Fa h1 hB h3 (by rw [← ho]; exact gd_st h2 hz) hp
theorem Sta.crash (Fa : Face U CD) {cs : List Value} {torn : List Int} {d' : Dk} (h : Sta CD B x g n D S) (hB : B ≤ x.heap.size) (hn : n ≤ 1048576) (hc : cs = eI.flat torn) (hl : torn.length ≤ 1048576) (ho : crD D torn = d') :
    Calls Tryd.prog 19 #[.pointer (some ⟨g, 0, none⟩), .slice (some ⟨x.heap.size, 0, none⟩) torn.length torn.length] (x.alloc (.cells cs.toArray 3)) fun r w' => r = .returned (.int .i64 0) ∧ Sta CD B w' g (n + 1) d' S ∧ Below B x w' ∧ Std S x w' := by
  obtain ⟨W, F, h1, h2, h3⟩ := h
  have hb : Below x.heap.size x (x.alloc (.cells cs.toArray 3)) := (Below.refl _ x).alloc (Nat.le_refl _) _
  have hA : At 3 (x.alloc (.cells cs.toArray 3)) x.heap.size (eI.flat torn) := by rw [← hc]; exact _root_.Go.heap_alloc_new x _
  have hc1 := Fa.below h1 hb
  have hrow : RowX eI (x.alloc (.cells cs.toArray 3)) (some ⟨x.heap.size, 0, none⟩) torn := .inr ⟨_, 0, rfl, hA.rng⟩
  have hB' := Nat.le_trans hB hb.size
  have hS' : ∀ k, S k → ¬ F k ∧ k < _ := fun k hk => ⟨(h3 k hk).1, Nat.lt_of_lt_of_le (h3 k hk).2 hb.size⟩
  refine (Fa.crash hc1 (h2.fine (by omega)) h2.so hB' hrow rfl (Nat.le_refl _) (by omega) (fun ad ha => by cases ha; exact ⟨fun q => by have h9 := Fa.lt h1 _ (Fa.wf h1 _ q).1; exact absurd h9 (Nat.lt_irrefl _), hA.lt⟩)).mono ?_
  rintro r w' hp
  obtain ⟨q1, q2, q3, q4⟩ := sta_of (n := n) Fa hc1 hB' hS' (gd_cr h2) hp
  rw [ho] at q2
  exact ⟨q1, q2, (hb.mono hB).trans q3, fun k hk => (q4 k hk).trans (hb.block k (h3 k hk).2)⟩
theorem Sta.crashNil (Fa : Face U CD) {d' : Dk} (h : Sta CD B x g n D S) (hB : B ≤ x.heap.size) (hn : n ≤ 1048576) (ho : crD D [] = d') :
    Calls Tryd.prog 19 #[.pointer (some ⟨g, 0, none⟩), .slice none 0 0] x fun r w' => r = .returned (.int .i64 0) ∧ Sta CD B w' g (n + 1) d' S ∧ Below B x w' ∧ Std S x w' := by
  obtain ⟨W, F, h1, h2, h3⟩ := h
  refine (Fa.crash (torn := []) h1 (h2.fine (by omega)) h2.so hB (.inl rfl) rfl (Nat.le_refl _) (Nat.zero_le _) (fun ad ha => by cases ha)).mono ?_
  rintro r w' hp
  obtain ⟨q1, q2, q3, q4⟩ := sta_of (n := n) Fa h1 hB h3 (gd_cr h2) hp
  rw [ho] at q2
  exact ⟨q1, q2, q3, q4⟩
theorem Sta.loose (Fa : Face U CD) {v : Int} (h : Sta CD B x g n D S) (hn : n ≤ 1048576) (hs : nm.size ≤ 9223372036854775807) (hv : lsD D.fs nm = v) :
    Calls Tryd.prog 23 #[.pointer (some ⟨g, 0, none⟩), .string nm] x fun r w' => r = .returned (.int .i64 v) ∧ Below x.heap.size x w' := by
  obtain ⟨W, F, h1, h2, h3⟩ := h
  rw [← hv]
  exact Fa.loose h1 (h2.fine (by omega)) hs
theorem Sta.used (Fa : Face U CD) {v : Int} (h : Sta CD B x g n D S) (hn : n ≤ 1048576) (hv : (usedL D.fs : Int) = v) :
    Calls Tryd.prog 21 #[.pointer (some ⟨g, 0, none⟩)] x fun r w' => r = .returned (.int .i64 v) ∧ Below x.heap.size x w' := by
  obtain ⟨W, F, h1, h2, h3⟩ := h
  rw [← hv]
  exact Fa.used h1 (h2.fine (by omega))
theorem Sta.stopped (Fa : Face U CD) {v : Bool} (h : Sta CD B x g n D S) (hv : (D.lf == 0) = v) : Calls Tryd.prog 24 #[.pointer (some ⟨g, 0, none⟩)] x fun r w' => r = .returned (.bool v) ∧ Below x.heap.size x w' := by
  obtain ⟨W, F, h1, h2, h3⟩ := h
  rw [← hv]
  exact Fa.stopped h1
theorem Sta.names (Fa : Face U CD) {ns : List ByteArray} (h : Sta CD B x g n D S) (hn : n ≤ 1048576) (hv : D.fs.map Fi.nm = ns) : Calls Tryd.prog 20 #[.pointer (some ⟨g, 0, none⟩)] x fun r w' => ∃ a c, r = .returned (.slice a ns.length c) ∧ RowX eS w' a ns ∧ ns.length ≤ c ∧ Below x.heap.size x w' := by
  obtain ⟨W, F, h1, h2, h3⟩ := h
  refine (Fa.names h1 (h2.fine (by omega)) h2.so).mono ?_
  rintro r w' ⟨v, rfl, q1, q2⟩
  rw [hv] at q1
  obtain ⟨a, c, rfl, q3, q4⟩ := q1.row
  exact ⟨a, c, rfl, q4, q3, q2⟩
theorem Sta.read (Fa : Face U CD) {v : Int} {b : List UInt8} (h : Sta CD B x g n D S) (hn : n ≤ 1048576) (hs : nm.size ≤ 9223372036854775807) (hv : rdZ D nm = v) (hb : rdB D nm = b) :
    Calls Tryd.prog 13 #[.pointer (some ⟨g, 0, none⟩), .string nm] x fun r w' => ∃ a c, r = .returned (.tuple #[.slice a b.length c, .int .i64 v]) ∧ Row w' a b ∧ b.length ≤ c ∧ Below x.heap.size x w' ∧ Sta CD B w' g n D (fun k => S k ∨ blkS a b k) := by
  obtain ⟨W, F, h1, h2, h3⟩ := h
  refine (Fa.read (nm := nm) h1 (h2.fine (by omega)) hs).mono ?_
  rintro r w' ⟨u, rfl, q1, q2⟩
  rw [hb] at q1
  have hblk : ∀ a c, u = .slice a b.length c → ∀ k, blkS a b k → x.heap.size ≤ k ∧ k < w'.heap.size := by
    rintro a c e k ⟨hne, ad, rfl, rfl⟩
    rcases q1 with ⟨h0, _⟩ | ⟨h0, _⟩
    · exact absurd h0 hne
    · have := h0.block ad.block (by rw [e]; rfl)
      exact ⟨this.1, this.2.1⟩
  obtain ⟨a, c, e, q3, q4⟩ := q1.row
  have hk := hblk a c e
  subst e
  refine ⟨a, c, by rw [hv], q4, q3, q2, W, F, Fa.below h1 q2, h2, ?_⟩
  rintro k (q | q)
  · exact ⟨(h3 k q).1, Nat.lt_of_lt_of_le (h3 k q).2 q2.size⟩
  · exact ⟨fun p => by have := Fa.lt h1 k p; have := (hk k q).1; omega, (hk k q).2⟩
/-- Append of whatever row is new. -/
theorem Sta.appRow (Fa : Face U CD) {gb : Nat} {b : List UInt8} {o : Dk × Int} (h : Sta CD B x g n D S) (hb : Below x.heap.size x x') (hB : B ≤ x.heap.size) (hn : n ≤ 1048576) (hs : nm.size ≤ 9223372036854775807) (hrow : Row x' (some ⟨gb, 0, none⟩) b) (hg : x.heap.size ≤ gb) (hg2 : gb < x'.heap.size) (hl : b.length ≤ 1048576) (ho : apO D nm b = o) :
    Calls Tryd.prog 10 #[.pointer (some ⟨g, 0, none⟩), .string nm, .slice (some ⟨gb, 0, none⟩) b.length b.length] x' fun r w' => r = .returned (.int .i64 o.2) ∧ Sta CD B w' g (n + 1) o.1 S ∧ Below B x w' ∧ Std S x w' := by
  obtain ⟨W, F, h1, h2, h3⟩ := h
  have hc1 := Fa.below h1 hb
  have hB' := Nat.le_trans hB hb.size
  have hS' : ∀ k, S k → ¬ F k ∧ k < _ := fun k hk => ⟨(h3 k hk).1, Nat.lt_of_lt_of_le (h3 k hk).2 hb.size⟩
  refine (Fa.append (nm := nm) hc1 (h2.fine (by omega)) h2.so hB' hs hrow rfl (Nat.le_refl _) (fun h => by cases h) (by omega) (fun _ ad ha => by cases ha; exact ⟨fun q => by have h9 : gb < x.heap.size := Fa.lt h1 _ (Fa.wf h1 _ q).1; omega, hg2⟩)).mono ?_
  rintro r w' hp
  rw [ho] at hp
  obtain ⟨q1, q2, q3, q4⟩ := sta_of (n := n) Fa hc1 hB' hS' (by rw [← ho]; exact gd_ap h2) hp
  exact ⟨q1, q2, (hb.mono hB).trans q3, fun k hk => (q4 k hk).trans (hb.block k (h3 k hk).2)⟩
end
def nA : ByteArray := ⟨#[97]⟩
theorem size_a : (ByteArray.mk #[97]).size ≤ 9223372036854775807 := by decide
theorem w1_ap : apO ⟨10, [], -1, 0⟩ ⟨#[97]⟩ [1, 2] = (⟨10, [⟨⟨#[97]⟩, [1, 2], 0, false⟩], -1, 1⟩, 0) := by kernel_rfl
theorem w2_sy : syO ⟨10, [⟨⟨#[97]⟩, [1, 2], 0, false⟩], -1, 1⟩ ⟨#[97]⟩ = (⟨10, [⟨⟨#[97]⟩, [1, 2], 2, true⟩], -1, 2⟩, 0) := by kernel_rfl
theorem w3_ap : apO ⟨10, [⟨⟨#[97]⟩, [1, 2], 2, true⟩], -1, 2⟩ ⟨#[97]⟩ [3, 4] = (⟨10, [⟨⟨#[97]⟩, [1, 2, 3, 4], 2, true⟩], -1, 3⟩, 0) := by kernel_rfl
theorem w4_cr : crD ⟨10, [⟨⟨#[97]⟩, [1, 2, 3, 4], 2, true⟩], -1, 3⟩ [1] = ⟨10, [⟨⟨#[97]⟩, [1, 2, 3], 3, true⟩], -1, 3⟩ := by kernel_rfl
set_option maxRecDepth 100000 in
set_option maxHeartbeats 6400000 in
theorem awake_of {U : Prop} {CD : CDT} (Fa : Face U CD) (w : World) : Calls Tryd.prog 27 #[] w fun r w' => r = .returned (.bool true) ∧ Below w.heap.size w w' := by
  have H1 := hidU (Fa.newOk (n := 10) (w := w) w.heap.size (by decide) (by decide) (Nat.le_refl _))
  go_enter Tryd.func27, Tryd.ntmps27
  go_wp2_with (go_at_call 8; refine H1.out.mono ?_; rintro _ w1 ⟨g, W1, F1, rfl, hc1, hb1, _⟩; refine Hid.out ?_)
  refine hidU ?_
  have hs1 : Sta CD w.heap.size w1 g 0 ⟨10, [], -1, 0⟩ (fun _ => False) := ⟨W1, F1, hc1, ⟨by decide, Nat.zero_le _, Nat.zero_le _, Int.le_refl _, by show (-1 : Int) ≤ _; omega, Nat.le_refl _, fun f h => (by cases h), List.Pairwise.nil⟩, fun _ h => h.elim⟩
  have HB1 := hidU hb1
  have H2 := hidU (hs1.app Fa (W := W1) (cs := [.int .u8 1, .int .u8 2]) hb1.size (by omega) size_a (by kernel_rfl) (by decide) w1_ap)
  clear hc1 hb1 hs1 H1
  go_wp2_with (go_at_call 10; refine H2.out.mono ?_; rintro _ w2 ⟨rfl, hs2, hb2, _⟩; refine Hid.out ?_)
  refine hidU ?_
  have HB2 := hidU (HB1.out.trans hb2)
  have H3 := hidU (hs2.sync Fa HB2.out.size (by omega) size_a w2_sy)
  clear hs2 hb2 H2
  go_wp2_with (go_at_call 15; refine H3.out.mono ?_; rintro _ w3 ⟨rfl, hs3, hb3, _⟩; refine Hid.out ?_)
  refine hidU ?_
  have HB3 := hidU (HB2.out.trans hb3)
  have H4 := hidU (hs3.app Fa (W := W1) (cs := [.int .u8 3, .int .u8 4]) HB3.out.size (by omega) size_a (by kernel_rfl) (by decide) w3_ap)
  clear hs3 hb3 H3
  go_wp2_with (go_at_call 10; refine H4.out.mono ?_; rintro _ w4 ⟨rfl, hs4, hb4, _⟩; refine Hid.out ?_)
  refine hidU ?_
  have HB4 := hidU (HB3.out.trans hb4)
  have HS4 := hidU hs4
  have H5 := hidU (hs4.loose Fa (v := 2) (by omega) size_a (by kernel_rfl))
  clear hs4 hb4 H4
  go_wp2_with (go_at_call 23; refine H5.out.mono ?_; rintro _ w5 ⟨rfl, hb5⟩; refine Hid.out ?_)
  refine hidU ?_
  have HB5 := hidU (HB4.out.trans (hb5.mono HB4.out.size))
  have HS5 := hidU (HS4.out.below Fa hb5)
  have H6 := hidU (HS5.out.used Fa (v := 4) (by omega) (by kernel_rfl))
  clear hb5 H5 HS4
  go_wp2_with (go_at_call 21; refine H6.out.mono ?_; rintro _ w6 ⟨rfl, hb6⟩; refine Hid.out ?_)
  refine hidU ?_
  have HB6 := hidU (HB5.out.trans (hb6.mono HB5.out.size))
  have HS6 := hidU (HS5.out.below Fa hb6)
  have H7 := hidU (HS6.out.crash Fa (cs := [.int .i64 1]) HB6.out.size (by omega) (by kernel_rfl) (by decide) w4_cr)
  clear hb6 H6 HS5
  go_wp2_with (go_at_call 19; refine H7.out.mono ?_; rintro _ w7 ⟨rfl, hs7, hb7, _⟩; refine Hid.out ?_)
  refine hidU ?_
  have HB7 := hidU (HB6.out.trans hb7)
  have HS7 := hidU hs7
  have H8 := hidU (hs7.read Fa (v := 0) (b := [1, 2, 3]) (by omega) size_a (by kernel_rfl) (by kernel_rfl))
  clear hs7 hb7 H7
  go_wp2_with (go_at_call 13; refine H8.out.mono ?_; rintro _ w8 ⟨a8, c8, rfl, hr8, _, hb8, _⟩; refine Hid.out ?_)
  refine hidU ?_
  have HB8 := hidU (HB7.out.trans (hb8.mono HB7.out.size))
  have HS8 := hidU (HS7.out.below Fa hb8)
  have hbn : Below w8.heap.size w8 (w8.alloc (.cells #[.int .u8 1, .int .u8 2, .int .u8 3] 5)) := (Below.refl _ w8).alloc (Nat.le_refl _) _
  have hA8 : At 5 (w8.alloc (.cells #[.int .u8 1, .int .u8 2, .int .u8 3] 5)) w8.heap.size (([1, 2, 3] : List UInt8).map B8) := _root_.Go.heap_alloc_new w8 _
  have H9 := hidU (same_any a8 (some ⟨w8.heap.size, 0, none⟩) c8 3 [1, 2, 3] [1, 2, 3] _ (hr8.below hbn) (Blk.row_all (blk_at.2 hA8)))
  have HS9 := hidU (HS8.out.below Fa hbn)
  have HB9 := hidU (HB8.out.trans (hbn.mono HB8.out.size))
  have H10 := hidU (HS9.out.loose Fa (nm := ⟨#[97]⟩) (v := 0) (by omega) size_a (by kernel_rfl))
  clear hr8 hb8 H8 hbn hA8
  go_wp2_with (first | (go_at_call 31; refine H9.out.mono ?_; rintro _ w9 ⟨rfl, hw9⟩; subst hw9) | (go_at_call 23; refine H10.out.mono ?_; rintro _ w10 ⟨rfl, hb10⟩; refine Hid.out ?_))
  refine hidU ?_
  have HBf := hidU (HB9.out.trans (hb10.mono HB9.out.size))
  clear hb10
  go_wp2
  go_ret
  exact ⟨rfl, HBf.out⟩
end Go.Proofs.YtcmkjjlchljffaaDoor

/- DiskKnown, given what the program's disk tells. -/
namespace Go.Proofs.YtcmkjjlchljffaaDoor
open Go.RowKit
set_option linter.unusedVariables false

theorem kn0 : apO ⟨10, [], -1, 0⟩ ⟨#[97]⟩ [1, 2] = (⟨10, [⟨⟨#[97]⟩, [1, 2], 0, false⟩], -1, 1⟩, 0) := by kernel_rfl
theorem kn1 : syO ⟨10, [⟨⟨#[97]⟩, [1, 2], 0, false⟩], -1, 1⟩ ⟨#[97]⟩ = (⟨10, [⟨⟨#[97]⟩, [1, 2], 2, true⟩], -1, 2⟩, 0) := by kernel_rfl
theorem kn2 : apO ⟨10, [⟨⟨#[97]⟩, [1, 2], 2, true⟩], -1, 2⟩ ⟨#[97]⟩ [3, 4] = (⟨10, [⟨⟨#[97]⟩, [1, 2, 3, 4], 2, true⟩], -1, 3⟩, 0) := by kernel_rfl
theorem kn3 : crD ⟨10, [⟨⟨#[97]⟩, [1, 2, 3, 4], 2, true⟩], -1, 3⟩ [1] = ⟨10, [⟨⟨#[97]⟩, [1, 2, 3], 3, true⟩], -1, 3⟩ := by kernel_rfl
theorem kn4 : apO ⟨10, [⟨⟨#[97]⟩, [1, 2, 3], 3, true⟩], -1, 3⟩ ⟨#[98]⟩ [9] = (⟨10, [⟨⟨#[97]⟩, [1, 2, 3], 3, true⟩, ⟨⟨#[98]⟩, [9], 0, false⟩], -1, 4⟩, 0) := by kernel_rfl
theorem kn5 : crD ⟨10, [⟨⟨#[97]⟩, [1, 2, 3], 3, true⟩, ⟨⟨#[98]⟩, [9], 0, false⟩], -1, 4⟩ [] = ⟨10, [⟨⟨#[97]⟩, [1, 2, 3], 3, true⟩], -1, 4⟩ := by kernel_rfl
theorem kn6 : ((⟨10, [⟨⟨#[97]⟩, [1, 2, 3], 3, true⟩], -1, 4⟩ : Dk).fs.map Fi.nm) = [⟨#[97]⟩] := by kernel_rfl
theorem kn7 : apO ⟨10, [⟨⟨#[97]⟩, [1, 2, 3], 3, true⟩], -1, 4⟩ ⟨#[97]⟩ [0, 0, 0, 0, 0, 0, 0, 0] = (⟨10, [⟨⟨#[97]⟩, [1, 2, 3], 3, true⟩], -1, 4⟩, 8) := by kernel_rfl
theorem kn8 : ctO ⟨10, [⟨⟨#[97]⟩, [1, 2, 3], 3, true⟩], -1, 4⟩ ⟨#[97]⟩ 9 = (⟨10, [⟨⟨#[97]⟩, [1, 2, 3], 3, true⟩], -1, 4⟩, 2) := by kernel_rfl
theorem kn9 : ctO ⟨10, [⟨⟨#[97]⟩, [1, 2, 3], 3, true⟩], -1, 4⟩ ⟨#[97]⟩ 1 = (⟨10, [⟨⟨#[97]⟩, [1], 1, true⟩], -1, 5⟩, 0) := by kernel_rfl
theorem kn10 : rnO ⟨10, [⟨⟨#[97]⟩, [1], 1, true⟩], -1, 5⟩ ⟨#[97]⟩ ⟨#[99]⟩ = (⟨10, [⟨⟨#[99]⟩, [1], 1, true⟩], -1, 6⟩, 0) := by kernel_rfl
theorem kn11 : rdZ ⟨10, [⟨⟨#[99]⟩, [1], 1, true⟩], -1, 6⟩ ⟨#[99]⟩ = 0 := by kernel_rfl
theorem kn12 : rdB ⟨10, [⟨⟨#[99]⟩, [1], 1, true⟩], -1, 6⟩ ⟨#[99]⟩ = [1] := by kernel_rfl
theorem kn13 : (stD ⟨10, [⟨⟨#[99]⟩, [1], 1, true⟩], -1, 6⟩ 1, stZ 1) = (⟨10, [⟨⟨#[99]⟩, [1], 1, true⟩], 1, 6⟩, 0) := by kernel_rfl
theorem kn14 : apO ⟨10, [⟨⟨#[99]⟩, [1], 1, true⟩], 1, 6⟩ ⟨#[99]⟩ [5] = (⟨10, [⟨⟨#[99]⟩, [1, 5], 1, true⟩], 0, 7⟩, 0) := by kernel_rfl
theorem kn15 : (((⟨10, [⟨⟨#[99]⟩, [1, 5], 1, true⟩], 0, 7⟩ : Dk).lf == 0) = true) := by kernel_rfl
theorem kn16 : syO ⟨10, [⟨⟨#[99]⟩, [1, 5], 1, true⟩], 0, 7⟩ ⟨#[99]⟩ = (⟨10, [⟨⟨#[99]⟩, [1, 5], 1, true⟩], 0, 7⟩, 13) := by kernel_rfl
theorem kn17 : rdZ ⟨10, [⟨⟨#[99]⟩, [1, 5], 1, true⟩], 0, 7⟩ ⟨#[99]⟩ = 0 := by kernel_rfl
theorem kn18 : rdB ⟨10, [⟨⟨#[99]⟩, [1, 5], 1, true⟩], 0, 7⟩ ⟨#[99]⟩ = [1, 5] := by kernel_rfl
theorem kn19 : crD ⟨10, [⟨⟨#[99]⟩, [1, 5], 1, true⟩], 0, 7⟩ [9] = ⟨10, [⟨⟨#[99]⟩, [1, 5], 2, true⟩], -1, 7⟩ := by kernel_rfl
theorem kn20 : rdZ ⟨10, [⟨⟨#[99]⟩, [1, 5], 2, true⟩], -1, 7⟩ ⟨#[99]⟩ = 0 := by kernel_rfl
theorem kn21 : rdB ⟨10, [⟨⟨#[99]⟩, [1, 5], 2, true⟩], -1, 7⟩ ⟨#[99]⟩ = [1, 5] := by kernel_rfl
theorem kn22 : apO ⟨10, [⟨⟨#[99]⟩, [1, 5], 2, true⟩], -1, 7⟩ ⟨#[67]⟩ [1] = (⟨10, [⟨⟨#[99]⟩, [1, 5], 2, true⟩], -1, 7⟩, 2) := by kernel_rfl
theorem kn23 : syO ⟨10, [⟨⟨#[99]⟩, [1, 5], 2, true⟩], -1, 7⟩ ⟨#[120]⟩ = (⟨10, [⟨⟨#[99]⟩, [1, 5], 2, true⟩], -1, 7⟩, 6) := by kernel_rfl
theorem kn24 : (stD ⟨10, [⟨⟨#[99]⟩, [1, 5], 2, true⟩], -1, 7⟩ (-1), stZ (-1)) = (⟨10, [⟨⟨#[99]⟩, [1, 5], 2, true⟩], -1, 7⟩, 2) := by kernel_rfl
set_option maxRecDepth 100000 in
set_option maxHeartbeats 12800000 in
theorem known_of {U : Prop} {CD : CDT} (Fa : Face U CD) (w : World) : Calls Tryd.prog 7 #[] w fun r w' => r = .returned (.bool true) ∧ Below w.heap.size w w' := by
  have H1 := hidU (Fa.newOk (n := 10) (w := w) w.heap.size (by decide) (by decide) (Nat.le_refl _))
  go_enter Tryd.func7, Tryd.ntmps7
  go_wp2_with (go_at_call 8; refine H1.out.mono ?_; rintro _ w1 ⟨g, W1, F1, rfl, hc1, hb1, _⟩; refine Hid.out ?_)
  refine hidU ?_
  have HSw1 : Hid (Sta CD w.heap.size w1 g 0 ⟨10, [], -1, 0⟩ (fun _ => False)) := ⟨W1, F1, hc1, ⟨by decide, Nat.zero_le _, Nat.zero_le _, Int.le_refl _, by show (-1 : Int) ≤ _; omega, Nat.le_refl _, fun f h => (by cases h), List.Pairwise.nil⟩, fun _ h => h.elim⟩
  have HBw1 := hidU hb1
  clear hc1 hb1 H1
  have Hw2 := hidU (HSw1.out.app Fa (W := fun _ => False) (cs := [.int .u8 1, .int .u8 2]) HBw1.out.size (by omega) (show (ByteArray.mk #[97]).size ≤ 9223372036854775807 by decide) (by kernel_rfl) (by decide) kn0)
  go_wp2_with (go_at_call 10; refine Hw2.out.mono ?_; rintro _ w2 ⟨rfl, hsw2, hbw2, hkw2⟩; refine Hid.out ?_)
  refine hidU ?_
  have HSw2 := hidU hsw2
  have HBw2 := hidU (HBw1.out.trans hbw2)
  clear hsw2 hbw2 hkw2 Hw2 HSw1 HBw1
  have Hw3 := hidU (HSw2.out.sync Fa HBw2.out.size (by omega) (show (ByteArray.mk #[97]).size ≤ 9223372036854775807 by decide) kn1)
  go_wp2_with (go_at_call 15; refine Hw3.out.mono ?_; rintro _ w3 ⟨rfl, hsw3, hbw3, hkw3⟩; refine Hid.out ?_)
  refine hidU ?_
  have HSw3 := hidU hsw3
  have HBw3 := hidU (HBw2.out.trans hbw3)
  clear hsw3 hbw3 hkw3 Hw3 HSw2 HBw2
  have Hw4 := hidU (HSw3.out.app Fa (W := fun _ => False) (cs := [.int .u8 3, .int .u8 4]) HBw3.out.size (by omega) (show (ByteArray.mk #[97]).size ≤ 9223372036854775807 by decide) (by kernel_rfl) (by decide) kn2)
  go_wp2_with (go_at_call 10; refine Hw4.out.mono ?_; rintro _ w4 ⟨rfl, hsw4, hbw4, hkw4⟩; refine Hid.out ?_)
  refine hidU ?_
  have HSw4 := hidU hsw4
  have HBw4 := hidU (HBw3.out.trans hbw4)
  clear hsw4 hbw4 hkw4 Hw4 HSw3 HBw3
  have Hw5 := hidU (HSw4.out.crash Fa (cs := [.int .i64 1]) HBw4.out.size (by omega) (by kernel_rfl) (by decide) kn3)
  go_wp2_with (go_at_call 19; refine Hw5.out.mono ?_; rintro _ w5 ⟨rfl, hsw5, hbw5, hkw5⟩; refine Hid.out ?_)
  refine hidU ?_
  have HSw5 := hidU hsw5
  have HBw5 := hidU (HBw4.out.trans hbw5)
  clear hsw5 hbw5 hkw5 Hw5 HSw4 HBw4
  have Hw6 := hidU (HSw5.out.app Fa (W := fun _ => False) (cs := [.int .u8 9]) HBw5.out.size (by omega) (show (ByteArray.mk #[98]).size ≤ 9223372036854775807 by decide) (by kernel_rfl) (by decide) kn4)
  go_wp2_with (go_at_call 10; refine Hw6.out.mono ?_; rintro _ w6 ⟨rfl, hsw6, hbw6, hkw6⟩; refine Hid.out ?_)
  refine hidU ?_
  have HSw6 := hidU hsw6
  have HBw6 := hidU (HBw5.out.trans hbw6)
  clear hsw6 hbw6 hkw6 Hw6 HSw5 HBw5
  have Hw7 := hidU (HSw6.out.crashNil Fa HBw6.out.size (by omega) kn5)
  go_wp2_with (go_at_call 19; refine Hw7.out.mono ?_; rintro _ w7 ⟨rfl, hsw7, hbw7, hkw7⟩; refine Hid.out ?_)
  refine hidU ?_
  have HSw7 := hidU hsw7
  have HBw7 := hidU (HBw6.out.trans hbw7)
  clear hsw7 hbw7 hkw7 Hw7 HSw6 HBw6
  have Hw8 := hidU (HSw7.out.names Fa (by omega) kn6)
  go_wp2_with (go_at_call 20; refine Hw8.out.mono ?_; rintro _ w8 ⟨na, nc, rfl, hrN, hcN, hbw8⟩; refine Hid.out ?_)
  refine hidU ?_
  have HSw8 := hidU (HSw7.out.below Fa hbw8)
  have HBw8 := hidU (HBw7.out.trans (hbw8.mono HBw7.out.size))
  have HRN := hidU hrN
  have HCN := hidU hcN
  clear hbw8 Hw8 HSw7 HBw7 hrN hcN
  obtain ⟨w9, hnw9⟩ : ∃ x, x = w8.alloc (.cells #[.string ⟨#[97]⟩] 9) := ⟨_, rfl⟩
  have hbA : Below w8.heap.size w8 w9 := by rw [hnw9]; exact (Below.refl _ _).alloc (Nat.le_refl _) _
  have hAA : At 9 w9 w8.heap.size [.string ⟨#[97]⟩] := by rw [hnw9]; exact _root_.Go.heap_alloc_new w8 _
  have HSm := hidU (sameTexts_any [⟨#[97]⟩] [⟨#[97]⟩] na (some ⟨w8.heap.size, 0, none⟩) nc 1 w9 (HRN.out.below hbA) (.inr ⟨_, 0, rfl, hAA.rng⟩) HCN.out (Nat.le_refl _) (by decide) (by decide))
  have HSw9 := hidU (HSw8.out.below Fa hbA)
  have HBw9 := hidU (HBw8.out.trans (hbA.mono HBw8.out.size))
  rw [hnw9] at HSm HSw9 HBw9
  clear hbA hAA HRN HCN HSw8 HBw8
  go_wp2_with (go_at_call 30; refine HSm.out.mono ?_; rintro _ w10 ⟨rfl, hbw10, hhp⟩; clear hhp; refine Hid.out ?_)
  refine hidU ?_
  have HSw10 := hidU (HSw9.out.below Fa hbw10)
  have HBw10 := hidU (HBw9.out.trans (hbw10.mono HBw9.out.size))
  clear hbw10 HSm HSw9 HBw9 hnw9
  have hsm : sameS [⟨#[97]⟩] [⟨#[97]⟩] = true := by simp [sameS]
  obtain ⟨i0, hi0, hz0, hz1, hz2⟩ := info_parts Tryd.info5
  go_wp2_with (at_make; refine wpList_make_full _ rfl (.const (.int .i64 8)) (.const (.int .i64 8)) 29 rfl w10.heap.size 5 i0 (.int .u8 0) 1 Tryd.underlying29 hi0 hz0 hz1 .i64 .i64 _ _ 8 rfl rfl rfl rfl (by rw [hz2]; omega) (by unfold maxLen; omega) (Nat.le_refl _) ?_; intro w11 hown hgrow; refine Hid.out ?_)
  refine hidU ?_
  have hbM : Below w10.heap.size w10 w11 := (Below.refl _ _).grown hgrow (Nat.le_refl _) (by intro k hk; cases hk)
  have hownB : OwnX eB w10.heap.size w11 (.slice (some ⟨w10.heap.size, 0, none⟩) 8 8) [0, 0, 0, 0, 0, 0, 0, 0] := by
    have e9 : (madeCells (Value.int .u8 0).cells (8 * 1)).toList = eB.flat [0, 0, 0, 0, 0, 0, 0, 0] := by kernel_rfl
    rw [e9] at hown
    exact hown
  obtain ⟨ra, rc, re, _, _, _, _, rr⟩ := hownB.row
  cases re
  have Hw12 := hidU (HSw10.out.appRow Fa (b := [0, 0, 0, 0, 0, 0, 0, 0]) hbM HBw10.out.size (by omega) (show (ByteArray.mk #[97]).size ≤ 9223372036854775807 by decide) (rowB.1 rr) (Nat.le_refl _) (hownB.block w10.heap.size rfl).2.1 (by decide) kn7)
  rw [show ([0, 0, 0, 0, 0, 0, 0, 0] : List UInt8).length = 8 from rfl] at Hw12
  clear hown hgrow hownB rr hbM i0 hi0 hz0 hz1 hz2
  go_wp2_with (go_at_call 10; refine Hw12.out.mono ?_; rintro _ w12 ⟨rfl, hsw12, hbw12, hkw12⟩; refine Hid.out ?_)
  refine hidU ?_
  have HSw12 := hidU hsw12
  have HBw12 := hidU (HBw10.out.trans hbw12)
  clear hsw12 hbw12 hkw12 Hw12 HSw10 HBw10
  have Hw13 := hidU (HSw12.out.cut Fa HBw12.out.size (by omega) (show (ByteArray.mk #[97]).size ≤ 9223372036854775807 by decide) kn8)
  go_wp2_with (go_at_call 14; refine Hw13.out.mono ?_; rintro _ w13 ⟨rfl, hsw13, hbw13, hkw13⟩; refine Hid.out ?_)
  refine hidU ?_
  have HSw13 := hidU hsw13
  have HBw13 := hidU (HBw12.out.trans hbw13)
  clear hsw13 hbw13 hkw13 Hw13 HSw12 HBw12
  have Hw14 := hidU (HSw13.out.cut Fa HBw13.out.size (by omega) (show (ByteArray.mk #[97]).size ≤ 9223372036854775807 by decide) kn9)
  go_wp2_with (go_at_call 14; refine Hw14.out.mono ?_; rintro _ w14 ⟨rfl, hsw14, hbw14, hkw14⟩; refine Hid.out ?_)
  refine hidU ?_
  have HSw14 := hidU hsw14
  have HBw14 := hidU (HBw13.out.trans hbw14)
  clear hsw14 hbw14 hkw14 Hw14 HSw13 HBw13
  have Hw15 := hidU (HSw14.out.rename Fa HBw14.out.size (by omega) (show (ByteArray.mk #[97]).size ≤ 9223372036854775807 by decide) (show (ByteArray.mk #[99]).size ≤ 9223372036854775807 by decide) kn10)
  go_wp2_with (go_at_call 16; refine Hw15.out.mono ?_; rintro _ w15 ⟨rfl, hsw15, hbw15, hkw15⟩; refine Hid.out ?_)
  refine hidU ?_
  have HSw15 := hidU hsw15
  have HBw15 := hidU (HBw14.out.trans hbw15)
  clear hsw15 hbw15 hkw15 Hw15 HSw14 HBw14
  have Hw16 := hidU (HSw15.out.read Fa (by omega) (show (ByteArray.mk #[99]).size ≤ 9223372036854775807 by decide) kn11 kn12)
  go_wp2_with (go_at_call 13; refine Hw16.out.mono ?_; rintro _ w16 ⟨a0, c0, rfl, hrw16, _, hbw16, hsw16⟩; refine Hid.out ?_)
  refine hidU ?_
  have HBw16 := hidU (HBw15.out.trans (hbw16.mono HBw15.out.size))
  have R0w16 := hidU hrw16
  have HSw16 := hidU hsw16
  clear hbw16 hsw16 hrw16 Hw16 HSw15 HBw15
  have Hw17 := hidU (HSw16.out.stop Fa HBw16.out.size (by decide) kn13)
  go_wp2_with (go_at_call 18; refine Hw17.out.mono ?_; rintro _ w17 ⟨rfl, hsw17, hbw17, hkw17⟩; refine Hid.out ?_)
  refine hidU ?_
  have HSw17 := hidU hsw17
  have HBw17 := hidU (HBw16.out.trans hbw17)
  have R0w17 := hidU (R0w16.out.std (hkw17) (fun k q => Or.inr q))
  clear hsw17 hbw17 hkw17 Hw17 HSw16 HBw16 R0w16
  have Hw18 := hidU (HSw17.out.app Fa (W := fun _ => False) (cs := [.int .u8 5]) HBw17.out.size (by omega) (show (ByteArray.mk #[99]).size ≤ 9223372036854775807 by decide) (by kernel_rfl) (by decide) kn14)
  go_wp2_with (go_at_call 10; refine Hw18.out.mono ?_; rintro _ w18 ⟨rfl, hsw18, hbw18, hkw18⟩; refine Hid.out ?_)
  refine hidU ?_
  have HSw18 := hidU hsw18
  have HBw18 := hidU (HBw17.out.trans hbw18)
  have R0w18 := hidU (R0w17.out.std (hkw18) (fun k q => Or.inr q))
  clear hsw18 hbw18 hkw18 Hw18 HSw17 HBw17 R0w17
  have Hw19 := hidU (HSw18.out.stopped Fa kn15)
  go_wp2_with (go_at_call 24; refine Hw19.out.mono ?_; rintro _ w19 ⟨rfl, hbw19⟩; refine Hid.out ?_)
  refine hidU ?_
  have HSw19 := hidU (HSw18.out.below Fa hbw19)
  have HBw19 := hidU (HBw18.out.trans (hbw19.mono HBw18.out.size))
  have R0w19 := hidU (R0w18.out.std (HSw18.out.std hbw19) (fun k q => Or.inr q))
  clear hbw19 Hw19 HSw18 HBw18 R0w18
  have Hw20 := hidU (HSw19.out.sync Fa HBw19.out.size (by omega) (show (ByteArray.mk #[99]).size ≤ 9223372036854775807 by decide) kn16)
  go_wp2_with (go_at_call 15; refine Hw20.out.mono ?_; rintro _ w20 ⟨rfl, hsw20, hbw20, hkw20⟩; refine Hid.out ?_)
  refine hidU ?_
  have HSw20 := hidU hsw20
  have HBw20 := hidU (HBw19.out.trans hbw20)
  have R0w20 := hidU (R0w19.out.std (hkw20) (fun k q => Or.inr q))
  clear hsw20 hbw20 hkw20 Hw20 HSw19 HBw19 R0w19
  have Hw21 := hidU (HSw20.out.read Fa (by omega) (show (ByteArray.mk #[99]).size ≤ 9223372036854775807 by decide) kn17 kn18)
  go_wp2_with (go_at_call 13; refine Hw21.out.mono ?_; rintro _ w21 ⟨a1, c1, rfl, hrw21, _, hbw21, hsw21⟩; refine Hid.out ?_)
  refine hidU ?_
  have HBw21 := hidU (HBw20.out.trans (hbw21.mono HBw20.out.size))
  have R0w21 := hidU (R0w20.out.std (HSw20.out.std hbw21) (fun k q => Or.inr q))
  have R1w21 := hidU hrw21
  have HSw21 := hidU hsw21
  clear hbw21 hsw21 hrw21 Hw21 HSw20 HBw20 R0w20
  have Hw22 := hidU (HSw21.out.crash Fa (cs := [.int .i64 9]) HBw21.out.size (by omega) (by kernel_rfl) (by decide) kn19)
  go_wp2_with (go_at_call 19; refine Hw22.out.mono ?_; rintro _ w22 ⟨rfl, hsw22, hbw22, hkw22⟩; refine Hid.out ?_)
  refine hidU ?_
  have HSw22 := hidU hsw22
  have HBw22 := hidU (HBw21.out.trans hbw22)
  have R0w22 := hidU (R0w21.out.std (hkw22) (fun k q => Or.inl (Or.inr q)))
  have R1w22 := hidU (R1w21.out.std (hkw22) (fun k q => Or.inr q))
  clear hsw22 hbw22 hkw22 Hw22 HSw21 HBw21 R0w21 R1w21
  have Hw23 := hidU (HSw22.out.read Fa (by omega) (show (ByteArray.mk #[99]).size ≤ 9223372036854775807 by decide) kn20 kn21)
  go_wp2_with (go_at_call 13; refine Hw23.out.mono ?_; rintro _ w23 ⟨a2, c2, rfl, hrw23, _, hbw23, hsw23⟩; refine Hid.out ?_)
  refine hidU ?_
  have HBw23 := hidU (HBw22.out.trans (hbw23.mono HBw22.out.size))
  have R0w23 := hidU (R0w22.out.std (HSw22.out.std hbw23) (fun k q => Or.inl (Or.inr q)))
  have R1w23 := hidU (R1w22.out.std (HSw22.out.std hbw23) (fun k q => Or.inr q))
  have R2w23 := hidU hrw23
  have HSw23 := hidU hsw23
  clear hbw23 hsw23 hrw23 Hw23 HSw22 HBw22 R0w22 R1w22
  have Hw24 := hidU (Fa.newBad (n := 0) (w := w23) (.inl (by decide)))
  go_wp2_with (go_at_call 8; refine Hw24.out.mono ?_; rintro _ w24 ⟨rfl, hbw24⟩; refine Hid.out ?_)
  refine hidU ?_
  have HSw24 := hidU (HSw23.out.below Fa hbw24)
  have HBw24 := hidU (HBw23.out.trans (hbw24.mono HBw23.out.size))
  have R0w24 := hidU (R0w23.out.std (HSw23.out.std hbw24) (fun k q => Or.inl (Or.inl (Or.inr q))))
  have R1w24 := hidU (R1w23.out.std (HSw23.out.std hbw24) (fun k q => Or.inl (Or.inr q)))
  have R2w24 := hidU (R2w23.out.std (HSw23.out.std hbw24) (fun k q => Or.inr q))
  clear hbw24 Hw24 HSw23 HBw23 R0w23 R1w23 R2w23
  have Hw25 := hidU (HSw24.out.app Fa (W := fun _ => False) (cs := [.int .u8 1]) HBw24.out.size (by omega) (show (ByteArray.mk #[67]).size ≤ 9223372036854775807 by decide) (by kernel_rfl) (by decide) kn22)
  go_wp2_with (go_at_call 10; refine Hw25.out.mono ?_; rintro _ w25 ⟨rfl, hsw25, hbw25, hkw25⟩; refine Hid.out ?_)
  refine hidU ?_
  have HSw25 := hidU hsw25
  have HBw25 := hidU (HBw24.out.trans hbw25)
  have R0w25 := hidU (R0w24.out.std (hkw25) (fun k q => Or.inl (Or.inl (Or.inr q))))
  have R1w25 := hidU (R1w24.out.std (hkw25) (fun k q => Or.inl (Or.inr q)))
  have R2w25 := hidU (R2w24.out.std (hkw25) (fun k q => Or.inr q))
  clear hsw25 hbw25 hkw25 Hw25 HSw24 HBw24 R0w24 R1w24 R2w24
  have Hw26 := hidU (HSw25.out.sync Fa HBw25.out.size (by omega) (show (ByteArray.mk #[120]).size ≤ 9223372036854775807 by decide) kn23)
  go_wp2_with (go_at_call 15; refine Hw26.out.mono ?_; rintro _ w26 ⟨rfl, hsw26, hbw26, hkw26⟩; refine Hid.out ?_)
  refine hidU ?_
  have HSw26 := hidU hsw26
  have HBw26 := hidU (HBw25.out.trans hbw26)
  have R0w26 := hidU (R0w25.out.std (hkw26) (fun k q => Or.inl (Or.inl (Or.inr q))))
  have R1w26 := hidU (R1w25.out.std (hkw26) (fun k q => Or.inl (Or.inr q)))
  have R2w26 := hidU (R2w25.out.std (hkw26) (fun k q => Or.inr q))
  clear hsw26 hbw26 hkw26 Hw26 HSw25 HBw25 R0w25 R1w25 R2w25
  have Hw27 := hidU (HSw26.out.stop Fa HBw26.out.size (by decide) kn24)
  go_wp2_with (go_at_call 18; refine Hw27.out.mono ?_; rintro _ w27 ⟨rfl, hsw27, hbw27, hkw27⟩; refine Hid.out ?_)
  refine hidU ?_
  have HSw27 := hidU hsw27
  have HBw27 := hidU (HBw26.out.trans hbw27)
  have R0w27 := hidU (R0w26.out.std (hkw27) (fun k q => Or.inl (Or.inl (Or.inr q))))
  have R1w27 := hidU (R1w26.out.std (hkw27) (fun k q => Or.inl (Or.inr q)))
  have R2w27 := hidU (R2w26.out.std (hkw27) (fun k q => Or.inr q))
  clear hsw27 hbw27 hkw27 Hw27 HSw26 HBw26 R0w26 R1w26 R2w26
  have Hw28 := hidU (awake_of Fa w27)
  go_wp2_with (go_at_call 27; refine Hw28.out.mono ?_; rintro _ w28 ⟨rfl, hbw28⟩; refine Hid.out ?_)
  refine hidU ?_
  have HSw28 := hidU (HSw27.out.below Fa hbw28)
  have HBw28 := hidU (HBw27.out.trans (hbw28.mono HBw27.out.size))
  have R0w28 := hidU (R0w27.out.std (HSw27.out.std hbw28) (fun k q => Or.inl (Or.inl (Or.inr q))))
  have R1w28 := hidU (R1w27.out.std (HSw27.out.std hbw28) (fun k q => Or.inl (Or.inr q)))
  have R2w28 := hidU (R2w27.out.std (HSw27.out.std hbw28) (fun k q => Or.inr q))
  clear hbw28 Hw28 HSw27 HBw27 R0w27 R1w27 R2w27
  have hbA0 : Below w28.heap.size w28 (w28.alloc (.cells #[.int .u8 1] 5)) := (Below.refl _ _).alloc (Nat.le_refl _) _
  have hAA0 : At 5 (w28.alloc (.cells #[.int .u8 1] 5)) w28.heap.size (([1] : List UInt8).map B8) := _root_.Go.heap_alloc_new w28 _
  have HSm0 : Hid (Calls Tryd.prog 31 #[.slice a0 1 c0, .slice (some ⟨w28.heap.size, 0, none⟩) 1 1] (w28.alloc (.cells #[.int .u8 1] 5)) fun e w' => e = .returned (.bool true) ∧ Below w28.heap.size w28 w') := by
    refine (same_any a0 (some ⟨w28.heap.size, 0, none⟩) c0 1 [1] [1] _ (R0w28.out.below hbA0) (Blk.row_all (blk_at.2 hAA0))).mono ?_
    rintro e w' ⟨rfl, rfl⟩
    exact ⟨rfl, hbA0⟩
  clear hbA0 hAA0 HSw28
  go_wp2_with (go_at_call 31; refine HSm0.out.mono ?_; rintro _ w29 ⟨rfl, hbw29⟩; refine Hid.out ?_)
  refine hidU ?_
  have HBw29 := hidU (HBw28.out.trans (hbw29.mono HBw28.out.size))
  have R1w29 := hidU (R1w28.out.below hbw29)
  have R2w29 := hidU (R2w28.out.below hbw29)
  clear hbw29 HSm0 HBw28 R0w28 R1w28 R2w28
  have hbA1 : Below w29.heap.size w29 (w29.alloc (.cells #[.int .u8 1, .int .u8 5] 5)) := (Below.refl _ _).alloc (Nat.le_refl _) _
  have hAA1 : At 5 (w29.alloc (.cells #[.int .u8 1, .int .u8 5] 5)) w29.heap.size (([1, 5] : List UInt8).map B8) := _root_.Go.heap_alloc_new w29 _
  have HSm1 : Hid (Calls Tryd.prog 31 #[.slice a1 2 c1, .slice (some ⟨w29.heap.size, 0, none⟩) 2 2] (w29.alloc (.cells #[.int .u8 1, .int .u8 5] 5)) fun e w' => e = .returned (.bool true) ∧ Below w29.heap.size w29 w') := by
    refine (same_any a1 (some ⟨w29.heap.size, 0, none⟩) c1 2 [1, 5] [1, 5] _ (R1w29.out.below hbA1) (Blk.row_all (blk_at.2 hAA1))).mono ?_
    rintro e w' ⟨rfl, rfl⟩
    exact ⟨rfl, hbA1⟩
  clear hbA1 hAA1
  go_wp2_with (go_at_call 31; refine HSm1.out.mono ?_; rintro _ w30 ⟨rfl, hbw30⟩; refine Hid.out ?_)
  refine hidU ?_
  have HBw30 := hidU (HBw29.out.trans (hbw30.mono HBw29.out.size))
  have R2w30 := hidU (R2w29.out.below hbw30)
  clear hbw30 HSm1 HBw29 R1w29 R2w29
  have hbA2 : Below w30.heap.size w30 (w30.alloc (.cells #[.int .u8 1, .int .u8 5] 5)) := (Below.refl _ _).alloc (Nat.le_refl _) _
  have hAA2 : At 5 (w30.alloc (.cells #[.int .u8 1, .int .u8 5] 5)) w30.heap.size (([1, 5] : List UInt8).map B8) := _root_.Go.heap_alloc_new w30 _
  have HSm2 : Hid (Calls Tryd.prog 31 #[.slice a2 2 c2, .slice (some ⟨w30.heap.size, 0, none⟩) 2 2] (w30.alloc (.cells #[.int .u8 1, .int .u8 5] 5)) fun e w' => e = .returned (.bool true) ∧ Below w30.heap.size w30 w') := by
    refine (same_any a2 (some ⟨w30.heap.size, 0, none⟩) c2 2 [1, 5] [1, 5] _ (R2w30.out.below hbA2) (Blk.row_all (blk_at.2 hAA2))).mono ?_
    rintro e w' ⟨rfl, rfl⟩
    exact ⟨rfl, hbA2⟩
  clear hbA2 hAA2
  go_wp2_with (go_at_call 31; refine HSm2.out.mono ?_; rintro _ w31 ⟨rfl, hbw31⟩; refine Hid.out ?_)
  refine hidU ?_
  have HBw31 := hidU (HBw30.out.trans (hbw31.mono HBw30.out.size))
  clear hbw31 HSm2 HBw30 R2w30
  go_wp2
  go_ret
  exact ⟨rfl, HBw31.out⟩
end Go.Proofs.YtcmkjjlchljffaaDoor

/- plays: calls of one disk, one behind the other. -/
namespace Go.Proofs.YtcmkjjlchljffaaDoor
open Go.RowKit
set_option linter.unusedVariables false

/-- A call that plays takes. -/
def plOk (a : Ac) : Bool := decide (a.b.length ≤ 400) && decide (0 ≤ a.kd) && decide (a.kd ≤ 4)
/-- What a disk is behind calls. -/
def plD (D : Dk) (al : List AT) : Dk := al.foldl (fun d a => acD d a.ac) D
theorem plD_snoc (D : Dk) (al : List AT) (a : AT) : plD D (al ++ [a]) = acD (plD D al) a.ac := by simp [plD]
theorem Sta.drop {U : Prop} {CD : CDT} {B g n : Nat} {x : World} {D : Dk} {S : Nat → Prop} (h : Sta CD B x g n D S) : Sta CD B x g n D (fun _ => False) := by
  obtain ⟨W, F, h1, h2, h3⟩ := h
  exact ⟨W, F, h1, h2, fun _ q => q.elim⟩
theorem Sta.appArg {U : Prop} {CD : CDT} {B g n : Nat} {x : World} {D : Dk} {S : Nat → Prop} (Fa : Face U CD) {a : AT} (h : Sta CD B x g n D S) (hB : B ≤ x.heap.size) (hn : n ≤ 1048576) (ha : a.In0 B x) (hl : a.ac.b.length ≤ 1099511627776) :
    Calls Tryd.prog 10 #[.pointer (some ⟨g, 0, none⟩), .string a.ac.nm, .slice a.ba a.ac.b.length a.bc] x fun r w' => ∃ e, r = .returned (.int .i64 e) ∧ Sta CD B w' g (n + 1) (apO D a.ac.nm a.ac.b).1 S ∧ Below B x w' ∧ Std S x w' := by
  obtain ⟨W, F, h1, h2, h3⟩ := h
  refine (Fa.append (nm := a.ac.nm) h1 (h2.fine (by omega)) h2.so hB ha.l3 ha.rb rfl ha.lb ha.nb hl (fun hne ad q => ⟨fun p => by have := (Fa.wf h1 _ p).2; have := ha.bb hne ad q; omega, Nat.lt_of_lt_of_le (ha.bb hne ad q) hB⟩)).mono ?_
  rintro r w' hp
  obtain ⟨q1, q2, q3, q4⟩ := sta_of (n := n) Fa h1 hB h3 (gd_ap h2) hp
  exact ⟨_, q1, q2, q3, q4⟩
theorem Sta.remove {U : Prop} {CD : CDT} {B g n : Nat} {x : World} {D : Dk} {nm : ByteArray} {S : Nat → Prop} (Fa : Face U CD) (h : Sta CD B x g n D S) (hB : B ≤ x.heap.size) (hn : n ≤ 1048576) (hs : nm.size ≤ 9223372036854775807) :
    Calls Tryd.prog 17 #[.pointer (some ⟨g, 0, none⟩), .string nm] x fun r w' => r = .returned (.int .i64 (rmO D nm).2) ∧ Sta CD B w' g (n + 1) (rmO D nm).1 S ∧ Below B x w' ∧ Std S x w' := by
  obtain ⟨W, F, h1, h2, h3⟩ := h
  refine (Fa.remove (nm := nm) h1 (h2.fine (by omega)) h2.so hB hs).mono ?_
  rintro r w' hp
  exact sta_of Fa h1 hB h3 (gd_rm h2) hp
/-- Any of the five calls. -/
structure Five (CD : CDT) (B : Nat) (y : World) (g n : Nat) (D : Dk) (a : AT) (S : Nat → Prop) : Prop where
  c0 : Calls Tryd.prog 10 #[.pointer (some ⟨g, 0, none⟩), .string a.ac.nm, .slice a.ba a.ac.b.length a.bc] y fun r w' => ∃ e, r = .returned (.int .i64 e) ∧ Sta CD B w' g (n + 1) (apO D a.ac.nm a.ac.b).1 S ∧ Below B y w' ∧ Std S y w'
  c1 : Calls Tryd.prog 14 #[.pointer (some ⟨g, 0, none⟩), .string a.ac.nm, .int .i64 a.ac.z] y fun r w' => ∃ e, r = .returned (.int .i64 e) ∧ Sta CD B w' g (n + 1) (ctO D a.ac.nm a.ac.z).1 S ∧ Below B y w' ∧ Std S y w'
  c2 : Calls Tryd.prog 15 #[.pointer (some ⟨g, 0, none⟩), .string a.ac.nm] y fun r w' => ∃ e, r = .returned (.int .i64 e) ∧ Sta CD B w' g (n + 1) (syO D a.ac.nm).1 S ∧ Below B y w' ∧ Std S y w'
  c3 : Calls Tryd.prog 16 #[.pointer (some ⟨g, 0, none⟩), .string a.ac.nm, .string a.ac.to] y fun r w' => ∃ e, r = .returned (.int .i64 e) ∧ Sta CD B w' g (n + 1) (rnO D a.ac.nm a.ac.to).1 S ∧ Below B y w' ∧ Std S y w'
  c4 : Calls Tryd.prog 17 #[.pointer (some ⟨g, 0, none⟩), .string a.ac.nm] y fun r w' => ∃ e, r = .returned (.int .i64 e) ∧ Sta CD B w' g (n + 1) (rmO D a.ac.nm).1 S ∧ Below B y w' ∧ Std S y w'
theorem five_of {U : Prop} {CD : CDT} {B g n : Nat} {y : World} {D : Dk} {a : AT} {S : Nat → Prop} (Fa : Face U CD) (h : Sta CD B y g n D S) (hB : B ≤ y.heap.size) (hn : n ≤ 1048576) (ha : a.In0 B y) (hl : a.ac.b.length ≤ 1099511627776) : Five CD B y g n D a S := by
  refine ⟨h.appArg Fa hB hn ha hl, ?_, ?_, ?_, ?_⟩
  · exact (h.cut Fa hB hn ha.l3 rfl).mono fun r w' q => ⟨_, q.1, q.2.1, q.2.2.1, q.2.2.2⟩
  · exact (h.sync Fa hB hn ha.l3 rfl).mono fun r w' q => ⟨_, q.1, q.2.1, q.2.2.1, q.2.2.2⟩
  · exact (h.rename Fa hB hn ha.l3 ha.l4 rfl).mono fun r w' q => ⟨_, q.1, q.2.1, q.2.2.1, q.2.2.2⟩
  · exact (h.remove Fa hB hn ha.l3).mono fun r w' q => ⟨_, q.1, q.2.1, q.2.2.1, q.2.2.2⟩
set_option maxRecDepth 100000 in
set_option maxHeartbeats 12800000 in
theorem plays_of {U : Prop} {CD : CDT} (Fa : Face U CD) (B g n : Nat) (D : Dk) (S : Nat → Prop) (aa : Option Addr) (c : Nat) (al : List AT) (w : World) (hs : Sta CD B w g n D S) (hB : B ≤ w.heap.size) (hrow : RowX eA w aa al) (hbb : ∀ ad, aa = some ad → ad.block < B) (hin : ∀ a ∈ al, a.In0 B w) (hlc : al.length ≤ c) (hl : n + al.length ≤ 1048576) :
    Calls Tryd.prog 28 #[.pointer (some ⟨g, 0, none⟩), .slice aa al.length c] w fun r w' => r = .returned (.bool (al.all fun a => plOk a.ac)) ∧ Below B w w' ∧ Std S w w' ∧ ((al.all fun a => plOk a.ac) = true → Sta CD B w' g (n + al.length) (plD D al) S) := by
  obtain ⟨R, hR⟩ : ∃ R, Hid (R = al.all fun a => plOk a.ac) := ⟨_, (rfl : _ = al.all fun a => plOk a.ac)⟩
  rw [← hR.out]
  obtain ⟨m, hm⟩ : ∃ m, Hid (m = al.length) := ⟨_, (rfl : al.length = _)⟩
  have HH := hidU (And.intro hs (And.intro hrow (And.intro hbb hin)))
  rw [← hm.out] at hlc hl ⊢
  clear hs hrow hbb hin
  go_enter Tryd.func28, Tryd.ntmps28
  go_wp2
  go_loopw [5] (fun j wr => ∃ i : Nat, j = .int .i64 (i : Int) ∧ i ≤ m ∧ Hid (Below B w wr) ∧ Hid (Std S w wr) ∧ Hid (Sta CD B wr g (n + i) (plD D (al.take i)) S) ∧ Hid (∀ q a, q < i → al[q]? = some a → plOk a.ac = true)) (fun j _ => m - (intOf j).toNat)
  case atStart => exact ⟨0, rfl, by omega, Below.refl _ _, fun _ _ => rfl, HH.out.1, fun q a h => by omega⟩
  case round =>
    obtain ⟨i, rfl, hi, hBw, hSd, hS, hP⟩ := hrel
    by_cases hc : i < m
    · obtain ⟨a, ha⟩ : ∃ a, al[i]? = some a := ⟨_, List.getElem?_eq_getElem (by rw [← hm.out]; exact hc)⟩
      have HIN := hidU (HH.out.2.2.2 a (List.mem_of_getElem? ha))
      have HAt := hidU ha
      have hrow : RowX eA wr aa al := HH.out.2.1.same fun ad q => hBw.out.block _ (HH.out.2.2.1 ad q)
      obtain ⟨ka, oa, rfl, hr⟩ := hrow.at ha
      have HR := hidU hr
      clear hr hrow ha
      go_wp2_with (first | (refine wpList_loadA rfl (.tmp 15) rfl ka (oa + i * 6) a rfl HR.out ?_) | (refine wpList_alloc_at rfl 84 rfl _ _ z33 ?_; intro y1 hA1 hb1 hs1; refine Hid.out ?_))
      refine hidU ?_
      obtain ⟨gb, hgb⟩ : ∃ k, k = wr.heap.size := ⟨_, rfl⟩
      rw [← hgb]
      rw [← hgb] at hA1 hs1
      have HG := hidU hgb
      clear hgb
      go_wp2_with (refine wpList_store_at rfl 84 (.tmp 6) (.tmp 16) rfl gb a.cells rfl rfl 84 _ hA1 i33 rfl (AT.one a) ?_; intro y hAy hby hsy; refine Hid.out ?_)
      refine hidU ?_
      have HBr : Hid (Below wr.heap.size wr y) := hby.below hb1 (by have := HG.out; omega) hb1.size
      have hBr : B ≤ wr.heap.size := Nat.le_trans hB hBw.out.size
      have HBy := hidU (hBw.out.trans (HBr.out.mono hBr))
      have HSy := hidU (hS.out.below Fa HBr.out)
      have HSdy : Hid (Std S w y) := fun k hk => by rw [hS.out.std HBr.out k hk]; obtain ⟨W0, F0, _, _, q3⟩ := HH.out.1; exact hSd.out k hk
      have cb := ac4 hAy
      have ck := ac0 hAy
      have c1 := ac1 hAy
      have c2 := ac2 hAy
      have c3 := ac3 hAy
      obtain ⟨lb, hlb⟩ : ∃ x, Hid (x = a.ac.b.length) := ⟨_, (rfl : a.ac.b.length = _)⟩
      rw [← hlb.out] at cb
      have HSt : Hid (∀ D' : Dk, acD (plD D (al.take i)) a.ac = D' → plD D (al.take (i + 1)) = D') := fun D' q => by rw [List.take_add_one, HAt.out]; show plD D (al.take i ++ [a]) = _; rw [plD_snoc]; exact q
      have HPn : Hid (plOk a.ac = true → ∀ q b, q < i + 1 → al[q]? = some b → plOk b.ac = true) := fun hk q b hq hb => by
        by_cases hqi : q = i
        · subst hqi; rw [HAt.out] at hb; cases hb; exact hk
        · exact hP.out q b (by omega) hb
      have HBad : Hid (plOk a.ac = false → R = false) := fun hk => by
        rw [hR.out, List.all_eq_false]
        exact ⟨a, List.mem_of_getElem? HAt.out, by rw [hk]; simp⟩
      clear hA1 hb1 hs1 hby hsy hAy HR hS hSd HBr
      obtain ⟨kd, hkd⟩ : ∃ x, Hid (x = a.ac.kd) := ⟨_, (rfl : a.ac.kd = _)⟩
      rw [← hkd.out] at ck
      have HOk : Hid (plOk a.ac = (decide (lb ≤ 400) && decide (0 ≤ kd) && decide (kd ≤ 4))) := by show _ = _; rw [hlb.out, hkd.out]; rfl
      by_cases h4 : 400 < lb
      · have hRf := HBad.out (by rw [HOk.out]; simp; omega)
        subst hRf
        clear HBad HPn hP hR
        go_wp2
        go_ret
        first | exact ⟨rfl, HBy.out, HSdy.out⟩ | exact ⟨rfl, HBy.out, HSdy.out, fun q => by cases q⟩
      have h4d : decide ((400 : Int) < (lb : Int)) = false := decide_eq_false (by omega)
      have HF := hidU (five_of Fa HSy.out (Nat.le_trans hB HBy.out.size) (by omega) (HIN.out.below HBy.out) (by rw [← hlb.out]; omega))
      have HF0 := hidU HF.out.c0
      rw [← hlb.out] at HF0
      by_cases h0 : kd < 0
      · have hRf := HBad.out (by rw [HOk.out]; simp; omega)
        subst hRf
        clear HBad HPn hP hR
        go_wp2
        go_ret
        first | exact ⟨rfl, HBy.out, HSdy.out⟩ | exact ⟨rfl, HBy.out, HSdy.out, fun q => by cases q⟩
      have h0d : decide (kd < 0) = false := decide_eq_false h0
      by_cases h5 : 4 < kd
      · have hRf := HBad.out (by rw [HOk.out]; simp; omega)
        subst hRf
        clear HBad HPn hP hR
        go_wp2
        go_ret
        first | exact ⟨rfl, HBy.out, HSdy.out⟩ | exact ⟨rfl, HBy.out, HSdy.out, fun q => by cases q⟩
      have h5d : decide (4 < kd) = false := decide_eq_false h5
      have HPk := hidU (HPn.out (by rw [HOk.out]; simp; omega))
      have hkk : kd = 0 ∨ kd = 1 ∨ kd = 2 ∨ kd = 3 ∨ kd = 4 := by omega
      clear HBad HPn hP h0d h5d h0 h5
      rcases hkk with rfl | rfl | rfl | rfl | rfl
      · have HE := hidU (HSt.out (apO (plD D (al.take i)) a.ac.nm a.ac.b).1 (by unfold acD; rw [← hkd.out]; rfl))
        have HC := hidU (HF0.out)
        go_wp2_with (go_at_call 10; refine HC.out.mono ?_; rintro _ z1 ⟨e1, rfl, hsz, hbz, hdz⟩; refine Hid.out ?_)
        refine hidU ?_
        have HB2 := hidU (HBy.out.trans hbz)
        have HSd2 : Hid (Std S w z1) := fun k hk => (hdz k hk).trans (HSdy.out k hk)
        have HS2 : Hid (Sta CD B z1 g (n + (i + 1)) (plD D (al.take (i + 1))) S) := by show Sta _ _ _ _ _ _ _; rw [HE.out]; exact hsz
        clear hsz hbz hdz HC cb ck c1 c2 c3
        go_wp2
        go_roundw
        · exact ⟨i + 1, by go_num, by omega, HB2, HSd2, HS2, HPk⟩
        · simp [intOf]; omega
      · have HE := hidU (HSt.out (ctO (plD D (al.take i)) a.ac.nm a.ac.z).1 (by unfold acD; rw [← hkd.out]; rfl))
        have HC := hidU (HF.out.c1)
        go_wp2_with (go_at_call 14; refine HC.out.mono ?_; rintro _ z1 ⟨e1, rfl, hsz, hbz, hdz⟩; refine Hid.out ?_)
        refine hidU ?_
        have HB2 := hidU (HBy.out.trans hbz)
        have HSd2 : Hid (Std S w z1) := fun k hk => (hdz k hk).trans (HSdy.out k hk)
        have HS2 : Hid (Sta CD B z1 g (n + (i + 1)) (plD D (al.take (i + 1))) S) := by show Sta _ _ _ _ _ _ _; rw [HE.out]; exact hsz
        clear hsz hbz hdz HC cb ck c1 c2 c3
        go_wp2
        go_roundw
        · exact ⟨i + 1, by go_num, by omega, HB2, HSd2, HS2, HPk⟩
        · simp [intOf]; omega
      · have HE := hidU (HSt.out (syO (plD D (al.take i)) a.ac.nm).1 (by unfold acD; rw [← hkd.out]; rfl))
        have HC := hidU (HF.out.c2)
        go_wp2_with (go_at_call 15; refine HC.out.mono ?_; rintro _ z1 ⟨e1, rfl, hsz, hbz, hdz⟩; refine Hid.out ?_)
        refine hidU ?_
        have HB2 := hidU (HBy.out.trans hbz)
        have HSd2 : Hid (Std S w z1) := fun k hk => (hdz k hk).trans (HSdy.out k hk)
        have HS2 : Hid (Sta CD B z1 g (n + (i + 1)) (plD D (al.take (i + 1))) S) := by show Sta _ _ _ _ _ _ _; rw [HE.out]; exact hsz
        clear hsz hbz hdz HC cb ck c1 c2 c3
        go_wp2
        go_roundw
        · exact ⟨i + 1, by go_num, by omega, HB2, HSd2, HS2, HPk⟩
        · simp [intOf]; omega
      · have HE := hidU (HSt.out (rnO (plD D (al.take i)) a.ac.nm a.ac.to).1 (by unfold acD; rw [← hkd.out]; rfl))
        have HC := hidU (HF.out.c3)
        go_wp2_with (go_at_call 16; refine HC.out.mono ?_; rintro _ z1 ⟨e1, rfl, hsz, hbz, hdz⟩; refine Hid.out ?_)
        refine hidU ?_
        have HB2 := hidU (HBy.out.trans hbz)
        have HSd2 : Hid (Std S w z1) := fun k hk => (hdz k hk).trans (HSdy.out k hk)
        have HS2 : Hid (Sta CD B z1 g (n + (i + 1)) (plD D (al.take (i + 1))) S) := by show Sta _ _ _ _ _ _ _; rw [HE.out]; exact hsz
        clear hsz hbz hdz HC cb ck c1 c2 c3
        go_wp2
        go_roundw
        · exact ⟨i + 1, by go_num, by omega, HB2, HSd2, HS2, HPk⟩
        · simp [intOf]; omega
      · have HE := hidU (HSt.out (rmO (plD D (al.take i)) a.ac.nm).1 (by unfold acD; rw [← hkd.out]; rfl))
        have HC := hidU (HF.out.c4)
        go_wp2_with (go_at_call 17; refine HC.out.mono ?_; rintro _ z1 ⟨e1, rfl, hsz, hbz, hdz⟩; refine Hid.out ?_)
        refine hidU ?_
        have HB2 := hidU (HBy.out.trans hbz)
        have HSd2 : Hid (Std S w z1) := fun k hk => (hdz k hk).trans (HSdy.out k hk)
        have HS2 : Hid (Sta CD B z1 g (n + (i + 1)) (plD D (al.take (i + 1))) S) := by show Sta _ _ _ _ _ _ _; rw [HE.out]; exact hsz
        clear hsz hbz hdz HC cb ck c1 c2 c3
        go_wp2
        go_roundw
        · exact ⟨i + 1, by go_num, by omega, HB2, HSd2, HS2, HPk⟩
        · simp [intOf]; omega
    · have hRf : R = true := by
        rw [hR.out, List.all_eq_true]
        intro a ha
        obtain ⟨q, hq⟩ := List.getElem?_of_mem ha
        exact hP.out q a (by have := (List.getElem?_eq_some_iff.1 hq).1; rw [← hm.out] at this; omega) hq
      have him : i = m := by omega
      have HS : Hid (Sta CD B wr g (n + m) (plD D al) S) := by
        have := hS.out
        rw [List.take_of_length_le (by rw [← hm.out]; omega), him] at this
        exact this
      subst hRf
      clear hP hR hS him
      go_wp2
      go_ret
      exact ⟨rfl, hBw.out, hSd.out, HS.out⟩
end Go.Proofs.YtcmkjjlchljffaaDoor

/- DiskStops, the mathematics: a disk whose power ends is the disk of the calls ahead of it. -/
namespace Go.Proofs.YtcmkjjlchljffaaDoor
open Go.RowKit
set_option linter.unusedVariables false

/-- What a call makes of the files does not hang on the power, while there is some. -/
def aft (o : Option (List Fi)) (d : Dk) : Dk := if d.lf = 0 then d else match o with | none => d | some f => { pwD d with fs := f }
theorem aft_none (d : Dk) : aft none d = d := by unfold aft; split <;> rfl
theorem aft_off {o : Option (List Fi)} {d : Dk} (h : d.lf = 0) : aft o d = d := by unfold aft; rw [if_pos h]
theorem aft_some {f : List Fi} {d : Dk} (h : d.lf ≠ 0) : aft (some f) d = { pwD d with fs := f } := by unfold aft; rw [if_neg h]
def Sh (F : Dk → Dk) : Prop := ∀ sz fs, ∃ o : Option (List Fi), ∀ lf wr, F ⟨sz, fs, lf, wr⟩ = aft o ⟨sz, fs, lf, wr⟩
theorem sh_ap (nm : ByteArray) (b : List UInt8) : Sh fun d => (apO d nm b).1 := by
  intro sz fs
  by_cases h1 : nmOk nm = false
  · exact ⟨none, fun lf wr => by rw [aft_none]; simp only [apO, if_pos h1]⟩
  by_cases h2 : (fs.find? (isN nm) = none ∧ 256 ≤ fs.length) ∨ sz < usedL fs + b.length
  · exact ⟨none, fun lf wr => by rw [aft_none]; simp only [apO, if_neg h1, if_pos h2]⟩
  refine ⟨some (setL nm (fun f => { f with bs := f.bs ++ b }) (hasL nm fs)), fun lf wr => ?_⟩
  by_cases h3 : lf = 0
  · rw [aft_off (by exact h3)]; simp only [apO, if_neg h1, if_neg h2, if_pos h3]
  · rw [aft_some (by exact h3)]; simp only [apO, if_neg h1, if_neg h2, if_neg h3]
theorem sh_ct (nm : ByteArray) (z : Int) : Sh fun d => (ctO d nm z).1 := by
  intro sz fs
  cases h0 : fs.find? (isN nm) with
  | none => exact ⟨none, fun lf wr => by rw [aft_none]; simp only [ctO, h0]⟩
  | some f =>
    by_cases h1 : z < 0 ∨ (f.bs.length : Int) < z
    · exact ⟨none, fun lf wr => by rw [aft_none]; simp only [ctO, h0, if_pos h1]⟩
    by_cases h2 : f.sf < f.bs.length
    · exact ⟨none, fun lf wr => by rw [aft_none]; simp only [ctO, h0, if_neg h1, if_pos h2]⟩
    refine ⟨some (setL nm (fun f => { f with bs := f.bs.take z.toNat, sf := z.toNat, hd := true }) fs), fun lf wr => ?_⟩
    by_cases h3 : lf = 0
    · rw [aft_off (by exact h3)]; simp only [ctO, h0, if_neg h1, if_neg h2, if_pos h3]
    · rw [aft_some (by exact h3)]; simp only [ctO, h0, if_neg h1, if_neg h2, if_neg h3]
theorem sh_sy (nm : ByteArray) : Sh fun d => (syO d nm).1 := by
  intro sz fs
  by_cases h1 : (fs.find? (isN nm)).isNone
  · exact ⟨none, fun lf wr => by rw [aft_none]; simp only [syO, if_pos h1]⟩
  refine ⟨some (setL nm (fun f => { f with sf := f.bs.length, hd := true }) fs), fun lf wr => ?_⟩
  by_cases h3 : lf = 0
  · rw [aft_off (by exact h3)]; simp only [syO, if_neg h1, if_pos h3]
  · rw [aft_some (by exact h3)]; simp only [syO, if_neg h1, if_neg h3]
theorem sh_rm (nm : ByteArray) : Sh fun d => (rmO d nm).1 := by
  intro sz fs
  by_cases h1 : (fs.find? (isN nm)).isNone
  · exact ⟨none, fun lf wr => by rw [aft_none]; simp only [rmO, if_pos h1]⟩
  refine ⟨some (fs.filter fun f => !isN nm f), fun lf wr => ?_⟩
  by_cases h3 : lf = 0
  · rw [aft_off (by exact h3)]; simp only [rmO, if_neg h1, if_pos h3]
  · rw [aft_some (by exact h3)]; simp only [rmO, if_neg h1, if_neg h3]; rfl
theorem sh_rn (nm to : ByteArray) : Sh fun d => (rnO d nm to).1 := by
  intro sz fs
  by_cases h1 : nmOk to = false
  · exact ⟨none, fun lf wr => by rw [aft_none]; simp only [rnO, if_pos h1]⟩
  cases h0 : fs.find? (isN nm) with
  | none => exact ⟨none, fun lf wr => by rw [aft_none]; simp only [rnO, h0, if_neg h1]⟩
  | some f =>
    by_cases h2 : f.sf < f.bs.length
    · exact ⟨none, fun lf wr => by rw [aft_none]; simp only [rnO, h0, if_neg h1, if_pos h2]⟩
    by_cases h4 : nm.toList = to.toList
    · refine ⟨some fs, fun lf wr => ?_⟩
      by_cases h3 : lf = 0
      · rw [aft_off (by exact h3)]; simp only [rnO, h0, if_neg h1, if_neg h2, if_pos h3]
      · rw [aft_some (by exact h3)]; simp only [rnO, h0, if_neg h1, if_neg h2, if_neg h3, if_pos h4]; rfl
    refine ⟨some (putD (goneD (goneD ⟨sz, fs, 0, 0⟩ nm) to) { f with nm := to, hd := true }).fs, fun lf wr => ?_⟩
    by_cases h3 : lf = 0
    · rw [aft_off (by exact h3)]; simp only [rnO, h0, if_neg h1, if_neg h2, if_pos h3]
    · rw [aft_some (by exact h3)]; simp only [rnO, h0, if_neg h1, if_neg h2, if_neg h3, if_neg h4]; rfl
theorem sh_ac (a : Ac) (h : plOk a = true) : Sh fun d => acD d a := by
  have hk : a.kd = 0 ∨ a.kd = 1 ∨ a.kd = 2 ∨ a.kd = 3 ∨ a.kd = 4 := by
    simp only [plOk, Bool.and_eq_true, decide_eq_true_eq] at h; omega
  rcases hk with q | q | q | q | q
  · have e : (fun d => acD d a) = fun d => (apO d a.nm a.b).1 := by funext d; simp [acD, q]
    rw [e]; exact sh_ap _ _
  · have e : (fun d => acD d a) = fun d => (ctO d a.nm a.z).1 := by funext d; simp [acD, q]
    rw [e]; exact sh_ct _ _
  · have e : (fun d => acD d a) = fun d => (syO d a.nm).1 := by funext d; simp [acD, q]
    rw [e]; exact sh_sy _
  · have e : (fun d => acD d a) = fun d => (rnO d a.nm a.to).1 := by funext d; simp [acD, q]
    rw [e]; exact sh_rn _ _
  · have e : (fun d => acD d a) = fun d => (rmO d a.nm).1 := by funext d; simp [acD, q]
    rw [e]; exact sh_rm _
/-- The disk that plays call by call while fewer than p writes are done. -/
def stopAt (p : Int) : Dk → List AT → Dk
  | d, [] => d
  | d, a :: al => if (d.wr : Int) < p then stopAt p (acD d a.ac) al else d
theorem plD_off : ∀ (al : List AT) (d : Dk), d.lf = 0 → (∀ a ∈ al, plOk a.ac = true) → plD d al = d
  | [], d, _, _ => rfl
  | a :: al, d, h, ho => by
    obtain ⟨o, q⟩ := sh_ac a.ac (ho a List.mem_cons_self) d.sz d.fs
    have e : acD d a.ac = d := (q d.lf d.wr).trans (aft_off h)
    show plD (acD d a.ac) al = d
    rw [e]; exact plD_off al d h fun x hx => ho x (List.mem_cons_of_mem _ hx)
theorem stops_at (p : Int) : ∀ (al : List AT) (sz : Nat) (fs : List Fi) (wr : Nat), (wr : Int) ≤ p → (∀ a ∈ al, plOk a.ac = true) →
    (plD ⟨sz, fs, p - wr, wr⟩ al).fs = (stopAt p ⟨sz, fs, -1, wr⟩ al).fs ∧ (plD ⟨sz, fs, p - wr, wr⟩ al).wr = (stopAt p ⟨sz, fs, -1, wr⟩ al).wr
  | [], _, _, _, _, _ => ⟨rfl, rfl⟩
  | a :: al, sz, fs, wr, hp, ho => by
    by_cases h : (wr : Int) < p
    · obtain ⟨o, q⟩ := sh_ac a.ac (ho a List.mem_cons_self) sz fs
      have es : stopAt p ⟨sz, fs, -1, wr⟩ (a :: al) = stopAt p (acD ⟨sz, fs, -1, wr⟩ a.ac) al := if_pos h
      have ep : plD ⟨sz, fs, p - wr, wr⟩ (a :: al) = plD (acD ⟨sz, fs, p - wr, wr⟩ a.ac) al := rfl
      rw [es, ep, show acD ⟨sz, fs, -1, wr⟩ a.ac = _ from q (-1) wr, show acD ⟨sz, fs, p - wr, wr⟩ a.ac = _ from q (p - wr) wr]
      cases o with
      | none => rw [aft_none, aft_none]; exact stops_at p al sz fs wr hp fun x hx => ho x (List.mem_cons_of_mem _ hx)
      | some f =>
        have e1 : aft (some f) ⟨sz, fs, p - wr, wr⟩ = ⟨sz, f, p - ((wr + 1 : Nat) : Int), wr + 1⟩ := by
          rw [aft_some (by show p - (wr : Int) ≠ 0; omega)]
          simp only [pwD]; rw [if_pos (by omega)]; congr 1; push_cast; omega
        have e2 : aft (some f) ⟨sz, fs, -1, wr⟩ = ⟨sz, f, -1, wr + 1⟩ := by
          rw [aft_some (by show (-1 : Int) ≠ 0; omega)]
          simp only [pwD]; rw [if_neg (by omega)]
        rw [e1, e2]
        exact stops_at p al sz f (wr + 1) (by push_cast; omega) fun x hx => ho x (List.mem_cons_of_mem _ hx)
    · have es : stopAt p ⟨sz, fs, -1, wr⟩ (a :: al) = ⟨sz, fs, -1, wr⟩ := if_neg h
      rw [es, plD_off (a :: al) ⟨sz, fs, p - wr, wr⟩ (by show p - (wr : Int) = 0; omega) ho]
      exact ⟨rfl, rfl⟩

end Go.Proofs.YtcmkjjlchljffaaDoor

/- DiskKeeps, the mathematics: what a crash leaves of a file. -/
namespace Go.Proofs.YtcmkjjlchljffaaDoor
open Go.RowKit
set_option linter.unusedVariables false

theorem crOne_nm (torn : List Int) (k : Nat) (f : Fi) : (crOne torn k f).1.nm = f.nm := by unfold crOne; split <;> rfl
theorem crOne_bs (torn : List Int) (k : Nat) (f : Fi) (h : f.sf ≤ f.bs.length) : ∃ m, (crOne torn k f).1.bs = f.bs.take m ∧ f.sf ≤ m ∧ (crOne torn k f).1.sf = (crOne torn k f).1.bs.length := by
  by_cases q : f.sf < f.bs.length
  · exact ⟨f.sf + kpN torn k (f.bs.length - f.sf), by unfold crOne; rw [if_pos q], by omega, by unfold crOne; rw [if_pos q]⟩
  · refine ⟨f.bs.length, ?_, h, ?_⟩
    · unfold crOne; rw [if_neg q]; exact (List.take_length).symm
    · unfold crOne; rw [if_neg q]; show f.sf = f.bs.length; omega
theorem crL_cons (torn : List Int) (k : Nat) (f : Fi) (fs : List Fi) : crL torn k (f :: fs) = (if crK torn k f then [(crOne torn k f).1] else []) ++ crL torn (crOne torn k f).2 fs := rfl
theorem crL_nm (torn : List Int) : ∀ (fs : List Fi) (k : Nat) (g : Fi), g ∈ crL torn k fs → ∃ f ∈ fs, g.nm = f.nm
  | [], _, g, h => by simp [crL] at h
  | f :: fs, k, g, h => by
    rw [crL_cons, List.mem_append] at h
    rcases h with h | h
    · split at h
      · simp at h; subst h; exact ⟨f, List.mem_cons_self, crOne_nm torn k f⟩
      · simp at h
    · obtain ⟨f', q, e⟩ := crL_nm torn fs _ g h
      exact ⟨f', List.mem_cons_of_mem _ q, e⟩
theorem isN_nm {nm : ByteArray} {f g : Fi} (h : g.nm = f.nm) : isN nm g = isN nm f := by unfold isN; rw [h]
theorem crL_off (torn : List Int) (fs : List Fi) (k : Nat) (nm : ByteArray) (h : ∀ f ∈ fs, isN nm f = false) : (crL torn k fs).find? (isN nm) = none := by
  rw [List.find?_eq_none]
  intro g hg
  obtain ⟨f, q, e⟩ := crL_nm torn fs k g hg
  rw [isN_nm e, h f q]; simp
theorem isN_symm (f g : Fi) (h : isN f.nm g = false) : isN g.nm f = false := by
  unfold isN at h ⊢
  rw [Bool.eq_false_iff] at h ⊢
  intro q
  exact h (by rw [beq_iff_eq] at q ⊢; exact q.symm)
/-- What is found behind a crash. -/
theorem cr_find (torn : List Int) : ∀ (fs : List Fi) (k : Nat), fs.Pairwise (fun a b => isN a.nm b = false) → (∀ f ∈ fs, f.sf ≤ f.bs.length) → ∀ f ∈ fs,
    ((crL torn k fs).find? (isN f.nm) = none ∧ f.sf = 0) ∨ ∃ g m, (crL torn k fs).find? (isN f.nm) = some g ∧ g.bs = f.bs.take m ∧ f.sf ≤ m ∧ g.sf = g.bs.length
  | [], _, _, _, f, h => by simp at h
  | a :: fs, k, hp, hs, f, h => by
    obtain ⟨hp1, hp2⟩ := List.pairwise_cons.1 hp
    rw [crL_cons]
    rcases List.mem_cons.1 h with e | e
    · subst e
      obtain ⟨m, hm, hl, hz⟩ := crOne_bs torn k f (hs f List.mem_cons_self)
      by_cases q : crK torn k f
      · rw [if_pos q]
        refine .inr ⟨(crOne torn k f).1, m, ?_, hm, hl, hz⟩
        rw [List.cons_append, List.find?_cons_of_pos]
        exact (isN_nm (crOne_nm torn k f)).trans (isN_self f.nm f.bs f.sf f.hd)
      · rw [if_neg q, List.nil_append, crL_off torn fs _ _ hp1]
        refine .inl ⟨rfl, ?_⟩
        have q0 : ¬ 0 < (crOne torn k f).1.bs.length := fun x => q (by unfold crK; rw [decide_eq_true x, Bool.or_true, Bool.or_true])
        rw [hm, List.length_take] at q0
        have := hs f List.mem_cons_self
        omega
    · have hn : isN f.nm a = false := isN_symm _ _ (hp1 f e)
      have hr := cr_find torn fs (crOne torn k a).2 hp2 (fun x hx => hs x (List.mem_cons_of_mem _ hx)) f e
      by_cases q : crK torn k a
      · rw [if_pos q, List.cons_append, List.find?_cons_of_neg (by rw [isN_nm (g := (crOne torn k a).1) (f := a) (crOne_nm torn k a), hn]; simp), List.nil_append]
        exact hr
      · rw [if_neg q, List.nil_append]; exact hr
/-- How many of the files are there behind it. -/
theorem cr_count (torn : List Int) : ∀ (fs : List Fi) (k : Nat), fs.Pairwise (fun a b => isN a.nm b = false) →
    (fs.filter fun f => ((crL torn k fs).find? (isN f.nm)).isSome).length = (crL torn k fs).length
  | [], _, _ => rfl
  | a :: fs, k, hp => by
    obtain ⟨hp1, hp2⟩ := List.pairwise_cons.1 hp
    have ih := cr_count torn fs (crOne torn k a).2 hp2
    rw [crL_cons]
    by_cases q : crK torn k a
    · rw [if_pos q, List.cons_append, List.nil_append, List.filter_cons_of_pos, List.length_cons, List.length_cons, ← ih]
      · congr 2
        apply List.filter_congr
        intro f hf
        rw [List.find?_cons_of_neg (by rw [isN_nm (g := (crOne torn k a).1) (f := a) (crOne_nm torn k a), isN_symm _ _ (hp1 f hf)]; simp)]
      · rw [List.find?_cons_of_pos ((isN_nm (g := (crOne torn k a).1) (f := a) (crOne_nm torn k a)).trans (isN_self a.nm a.bs a.sf a.hd))]; rfl
    · rw [if_neg q, List.nil_append, List.filter_cons_of_neg, ih]
      rw [crL_off torn fs _ _ hp1]; simp
/-- Names in order are apart. -/
theorem Sorted.apart {fs : List Fi} (h : Sorted fs) : fs.Pairwise (fun a b => isN a.nm b = false) := by
  refine List.Pairwise.imp ?_ h
  intro a b q
  rw [Bool.eq_false_iff]
  intro e
  unfold isN at e
  rw [beq_iff_eq] at e
  have q' : Op.bytesLess a.nm.toList b.nm.toList = true := q
  rw [e, bl_irr] at q'
  cases q'
theorem find_self : ∀ {fs : List Fi}, fs.Pairwise (fun a b => isN a.nm b = false) → ∀ f ∈ fs, fs.find? (isN f.nm) = some f
  | [], _, f, h => by simp at h
  | a :: fs, hp, f, h => by
    obtain ⟨hp1, hp2⟩ := List.pairwise_cons.1 hp
    rcases List.mem_cons.1 h with e | e
    · subst e; exact List.find?_cons_of_pos (isN_self f.nm f.bs f.sf f.hd)
    · rw [List.find?_cons_of_neg (by rw [isN_symm _ _ (hp1 f e)]; simp)]
      exact find_self hp2 f e
end Go.Proofs.YtcmkjjlchljffaaDoor

/- One call of a row of calls, as a row. -/
namespace Go.Proofs.YtcmkjjlchljffaaDoor
open Go.RowKit
set_option linter.unusedVariables false

theorem size33 (w : World) : (sizeOf 84).run Tryd.prog w = .ok 6 w := by kernel_rfl
theorem run_slice22 (w : World) (a : Option Addr) (len cap i : Nat) (x : Int) (hx : x = (i : Int) + 1) (hi : i < cap) :
    (Instr.slice 51 (.slice a len cap) (some (.int .i64 (i : Int))) (some (.int .i64 x)) none).run Tryd.prog w = .ok (.slice (a.map (·.add (i * 6))) 1 (cap - i)) w := by
  have he : Tryd.prog.elem 51 = 84 := by simp [Program.elem, Tryd.underlying51]
  rw [run_slice_lh w 51 a len cap (by rw [he]; exact Tryd.underlying51) .i64 .i64 i x (by omega) (by omega) (by omega), he, size33]
  simp only [Result.andThen, sliced]
  rw [show x.toNat = i + 1 by omega]
  simp
  omega
theorem RowX.one {w : World} {aa : Option Addr} {al : List AT} {i : Nat} {a : AT} (h : RowX eA w aa al) (ha : al[i]? = some a) : RowX eA w (aa.map (·.add (i * 6))) [a] ∧ ∀ ad, aa.map (·.add (i * 6)) = some ad → ∃ a0, aa = some a0 ∧ ad.block = a0.block := by
  obtain ⟨g, o, rfl, hr⟩ := h.at ha
  refine ⟨.inr ⟨g, o + i * 6, by simp [Addr.add], ?_⟩, fun ad q => ⟨_, rfl, ?_⟩⟩
  · have e : eA.flat [a] = eA.cl a := by simp [El.flat]
    rw [e]; exact hr
  · simp only [Option.map_some, Option.some.injEq] at q
    rw [← q]; simp only [Addr.add]; split <;> rfl

end Go.Proofs.YtcmkjjlchljffaaDoor

/- Names of a disk's files are names; a disk, its clone, and a crash of the one. -/
namespace Go.Proofs.YtcmkjjlchljffaaDoor
open Go.RowKit
set_option linter.unusedVariables false

/-- All names are files' names. -/
def NmD (d : Dk) : Prop := ∀ f ∈ d.fs, nmOk f.nm = true
theorem nmOk_size {s : ByteArray} (h : nmOk s = true) : s.size ≤ 40 := by
  unfold nmOk at h
  rw [Bool.and_eq_true, Bool.and_eq_true, decide_eq_true_eq, decide_eq_true_eq] at h
  exact h.2.2
theorem nm_map {fs gs : List Fi} (h : gs.map Fi.nm = fs.map Fi.nm) (hf : ∀ f ∈ fs, nmOk f.nm = true) : ∀ f ∈ gs, nmOk f.nm = true := by
  intro f h1
  have : f.nm ∈ gs.map Fi.nm := List.mem_map_of_mem h1
  rw [h] at this
  obtain ⟨f0, h2, h3⟩ := List.mem_map.1 this
  rw [← h3]; exact hf f0 h2
theorem nm_ap {d : Dk} (nm : ByteArray) (b : List UInt8) (h : NmD d) : NmD (apO d nm b).1 := by
  unfold apO
  split
  · exact h
  rename_i hn
  split
  · exact h
  split
  · exact h
  refine nm_map (by apply setL_nm; intro f; rfl) ?_
  unfold hasL
  split
  · intro f hf
    rcases insL_mem hf with rfl | q
    · show nmOk nm = true
      cases hh : nmOk nm
      · exact absurd hh hn
      · rfl
    · exact h f q
  · exact h
theorem nm_ct {d : Dk} (nm : ByteArray) (z : Int) (h : NmD d) : NmD (ctO d nm z).1 := by
  unfold ctO
  split
  · exact h
  split
  · exact h
  split
  · exact h
  split
  · exact h
  exact nm_map (by apply setL_nm; intro f; rfl) h
theorem nm_sy {d : Dk} (nm : ByteArray) (h : NmD d) : NmD (syO d nm).1 := by
  unfold syO
  split
  · exact h
  split
  · exact h
  exact nm_map (by apply setL_nm; intro f; rfl) h
theorem nm_rm {d : Dk} (nm : ByteArray) (h : NmD d) : NmD (rmO d nm).1 := by
  unfold rmO
  split
  · exact h
  split
  · exact h
  exact fun f hf => h f (List.mem_filter.1 hf).1
theorem nm_rn {d : Dk} (nm to : ByteArray) (h : NmD d) : NmD (rnO d nm to).1 := by
  unfold rnO
  split
  · exact h
  rename_i hn
  split
  · exact h
  split
  · exact h
  split
  · exact h
  split
  · exact h
  intro f hf
  rcases insL_mem hf with rfl | q
  · show nmOk to = true
    cases hh : nmOk to
    · exact absurd hh hn
    · rfl
  · exact h f (List.mem_filter.1 (List.mem_filter.1 q).1).1
theorem nm_ac {d : Dk} (a : Ac) (hk : plOk a = true) (h : NmD d) : NmD (acD d a) := by
  have hk : a.kd = 0 ∨ a.kd = 1 ∨ a.kd = 2 ∨ a.kd = 3 ∨ a.kd = 4 := by
    simp only [plOk, Bool.and_eq_true, decide_eq_true_eq] at hk; omega
  rcases hk with q | q | q | q | q
  · have e : acD d a = (apO d a.nm a.b).1 := by simp [acD, q]
    rw [e]; exact nm_ap _ _ h
  · have e : acD d a = (ctO d a.nm a.z).1 := by simp [acD, q]
    rw [e]; exact nm_ct _ _ h
  · have e : acD d a = (syO d a.nm).1 := by simp [acD, q]
    rw [e]; exact nm_sy _ h
  · have e : acD d a = (rnO d a.nm a.to).1 := by simp [acD, q]
    rw [e]; exact nm_rn _ _ h
  · have e : acD d a = (rmO d a.nm).1 := by simp [acD, q]
    rw [e]; exact nm_rm _ h
theorem nm_pl : ∀ (al : List AT) {d : Dk}, (∀ a ∈ al, plOk a.ac = true) → NmD d → NmD (plD d al)
  | [], d, _, h => h
  | a :: al, d, hk, h => nm_pl al (fun x hx => hk x (List.mem_cons_of_mem _ hx)) (nm_ac a.ac (hk a List.mem_cons_self) h)

section
variable {U : Prop} {CD : CDT} {B g n : Nat} {x x' : World} {D : Dk}
theorem Sta.clone (Fa : Face U CD) (h : Sta CD B x g n D (fun _ => False)) (hB : B ≤ x.heap.size) (hn : n ≤ 1048576) :
    Calls Tryd.prog 26 #[.pointer (some ⟨g, 0, none⟩)] x fun r w' => ∃ gc, r = .returned (.pointer (some ⟨gc, 0, none⟩)) ∧ Below x.heap.size x w' ∧ Gd n D ∧ ∃ W F W2 F2, CD B w' g W F D ∧ CD B w' gc W2 F2 D ∧ Apart W F W2 F2 := by
  obtain ⟨W, F, h1, h2, h3⟩ := h
  refine (Fa.clone h1 (h2.fine (by omega)) hB).mono ?_
  rintro r w' ⟨gc, W2, F2, rfl, q1, q2, q3, q4⟩
  refine ⟨gc, rfl, q2, h2, W, F, W2, F2, Fa.below h1 q2, q1, fun k a b => ?_, fun k a b => ?_⟩
  · rcases q4 k b with q | q
    · exact q.2 a
    · have := Fa.lt h1 k (Fa.wf h1 k a).1; omega
  · have := q3 k a
    have := Fa.lt h1 k b
    omega
theorem crash_beside (Fa : Face U CD) {gc : Nat} {W F W2 F2 : Nat → Prop} {ta : Option Addr} {tn tc : Nat} {torn : List Int} (h1 : CD B x g W F D) (h2 : CD B x gc W2 F2 D) (ap : Apart W F W2 F2) (gd : Gd n D) (hB : B ≤ x.heap.size) (hn : n ≤ 1048576)
    (hr : RowX eI x ta torn) (e : tn = torn.length) (hc : tn ≤ tc) (hl : tn ≤ 9223372036854775807) (hb : ∀ ad, ta = some ad → ad.block < B) :
    Calls Tryd.prog 19 #[.pointer (some ⟨g, 0, none⟩), .slice ta tn tc] x fun r w' => r = .returned (.int .i64 0) ∧ Sta CD B w' g (n + 1) (crD D torn) (fun _ => False) ∧ Sta CD B w' gc n D (fun _ => False) ∧ Below B x w' := by
  refine (Fa.crash h1 (gd.fine (by omega)) gd.so hB hr e hc hl (fun ad ha => ⟨fun q => by have := (Fa.wf h1 _ q).2; have := hb ad ha; omega, Nat.lt_of_lt_of_le (hb ad ha) hB⟩)).mono ?_
  rintro r w' ⟨rfl, W', F', q1, q2⟩
  refine ⟨rfl, ⟨W', F', q1, gd_cr gd, fun k hk => hk.elim⟩, ⟨W2, F2, Fa.same h2 (ap.stands q2 (Fa.lt h2)) q2.chg.size, gd, fun k hk => hk.elim⟩, ?_⟩
  exact q2.chg.below hB fun k hk => (Fa.wf h1 k hk).2
end
/-- Of the first i files so many are there behind a crash. -/
def cntK (q : List Fi) (fs : List Fi) (i : Nat) : Nat := ((fs.take i).filter fun f => (q.find? (isN f.nm)).isSome).length
theorem cntK_yes {q fs : List Fi} {i : Nat} {f : Fi} (h : fs[i]? = some f) (hq : (q.find? (isN f.nm)).isSome = true) : cntK q fs (i + 1) = cntK q fs i + 1 := by
  unfold cntK
  rw [List.take_add_one, h]
  simp [hq]
theorem cntK_no {q fs : List Fi} {i : Nat} {f : Fi} (h : fs[i]? = some f) (hq : (q.find? (isN f.nm)).isSome = false) : cntK q fs (i + 1) = cntK q fs i := by
  unfold cntK
  rw [List.take_add_one, h]
  simp [hq]
theorem cntK_le (q fs : List Fi) (i : Nat) : cntK q fs i ≤ fs.length := by
  unfold cntK
  refine Nat.le_trans (List.length_filter_le _ _) ?_
  rw [List.length_take]; omega
theorem rd_yes {d : Dk} {nm : ByteArray} {f : Fi} (h : d.fs.find? (isN nm) = some f) : rdZ d nm = 0 ∧ rdB d nm = f.bs ∧ lsD d.fs nm = (f.bs.length : Int) - f.sf := by
  refine ⟨?_, ?_, ?_⟩
  · unfold rdZ; rw [h]; rfl
  · unfold rdB; rw [h]
  · unfold lsD; rw [h]
theorem rd_no {d : Dk} {nm : ByteArray} (h : d.fs.find? (isN nm) = none) : rdZ d nm = 6 ∧ rdB d nm = [] ∧ lsD d.fs nm = 0 := by
  refine ⟨?_, ?_, ?_⟩
  · unfold rdZ; rw [h]; rfl
  · unfold rdB; rw [h]
  · unfold lsD; rw [h]
end Go.Proofs.YtcmkjjlchljffaaDoor

/- Two disks of the program's, each by itself; DiskStops, the mathematics, to its end. -/
namespace Go.Proofs.YtcmkjjlchljffaaDoor
open Go.RowKit
set_option linter.unusedVariables false

/-- Two disks, neither of which reads what the other has. -/
def Two (CD : CDT) (B : Nat) (x : World) (ga gb na nb : Nat) (Da Db : Dk) : Prop :=
  ∃ Wa Fa Wb Fb, CD B x ga Wa Fa Da ∧ CD B x gb Wb Fb Db ∧ Gd na Da ∧ Gd nb Db ∧ ∀ k, Fa k → Fb k → False
section
variable {U : Prop} {CD : CDT} {B ga gb g n na nb : Nat} {x x' : World} {Da Db D : Dk}
theorem Two.symm (h : Two CD B x ga gb na nb Da Db) : Two CD B x gb ga nb na Db Da := by
  obtain ⟨Wa, Fa, Wb, Fb, h1, h2, h3, h4, h5⟩ := h
  exact ⟨Wb, Fb, Wa, Fa, h2, h1, h4, h3, fun k a b => h5 k b a⟩
theorem Two.below (Fa : Face U CD) (h : Two CD B x ga gb na nb Da Db) (hb : Below x.heap.size x x') : Two CD B x' ga gb na nb Da Db := by
  obtain ⟨Wa, F1, Wb, F2, h1, h2, h3, h4, h5⟩ := h
  exact ⟨Wa, F1, Wb, F2, Fa.below h1 hb, Fa.below h2 hb, h3, h4, h5⟩
theorem Two.one (h : Two CD B x ga gb na nb Da Db) : Sta CD B x ga na Da (fun _ => False) := by
  obtain ⟨Wa, F1, Wb, F2, h1, h2, h3, h4, h5⟩ := h
  exact ⟨Wa, F1, h1, h3, fun k q => q.elim⟩
theorem Two.two (h : Two CD B x ga gb na nb Da Db) : Sta CD B x gb nb Db (fun _ => False) := h.symm.one
/-- The first moves, while the other stays. -/
theorem Two.left (Fa : Face U CD) (h : Two CD B x ga gb na nb Da Db) : ∃ S : Nat → Prop, Sta CD B x ga na Da S ∧
    ∀ {x' : World} {n' : Nat} {D' : Dk}, Sta CD B x' ga n' D' S → Std S x x' → x.heap.size ≤ x'.heap.size → Two CD B x' ga gb n' nb D' Db := by
  obtain ⟨Wa, F1, Wb, F2, h1, h2, h3, h4, h5⟩ := h
  refine ⟨F2, ⟨Wa, F1, h1, h3, fun k q => ⟨fun p => h5 k p q, Fa.lt h2 k q⟩⟩, ?_⟩
  rintro x' n' D' ⟨W', F', q1, q2, q3⟩ hs hz
  exact ⟨W', F', Wb, F2, q1, Fa.same h2 hs hz, q2, h4, fun k a b => (q3 k b).1 a⟩
theorem Sta.writes (Fa : Face U CD) {S : Nat → Prop} {v : Int} (h : Sta CD B x g n D S) (hv : (D.wr : Int) = v) : Calls Tryd.prog 25 #[.pointer (some ⟨g, 0, none⟩)] x fun r w' => r = .returned (.int .i64 v) ∧ Below x.heap.size x w' := by
  obtain ⟨W, F, h1, h2, h3⟩ := h
  rw [← hv]
  exact Fa.writes h1
end
/-- What is left of the power. -/
theorem pl_left (p : Int) : ∀ (al : List AT) (sz : Nat) (fs : List Fi) (wr : Nat), (wr : Int) ≤ p → (∀ a ∈ al, plOk a.ac = true) →
    (plD ⟨sz, fs, p - wr, wr⟩ al).lf = p - (plD ⟨sz, fs, p - wr, wr⟩ al).wr ∧ ((plD ⟨sz, fs, p - wr, wr⟩ al).wr : Int) ≤ p
  | [], _, _, _, h, _ => ⟨rfl, h⟩
  | a :: al, sz, fs, wr, hp, ho => by
    obtain ⟨o, q⟩ := sh_ac a.ac (ho a List.mem_cons_self) sz fs
    have ep : plD ⟨sz, fs, p - wr, wr⟩ (a :: al) = plD (acD ⟨sz, fs, p - wr, wr⟩ a.ac) al := rfl
    rw [ep, show acD ⟨sz, fs, p - wr, wr⟩ a.ac = _ from q (p - wr) wr]
    have ho' : ∀ x ∈ al, plOk x.ac = true := fun x hx => ho x (List.mem_cons_of_mem _ hx)
    cases o with
    | none => rw [aft_none]; exact pl_left p al sz fs wr hp ho'
    | some f =>
      by_cases h0 : p - (wr : Int) = 0
      · rw [aft_off (by exact h0)]; exact pl_left p al sz fs wr hp ho'
      · have e1 : aft (some f) ⟨sz, fs, p - wr, wr⟩ = ⟨sz, f, p - ((wr + 1 : Nat) : Int), wr + 1⟩ := by
          rw [aft_some (by exact h0)]
          simp only [pwD]; rw [if_pos (by omega)]; congr 1; push_cast; omega
        rw [e1]
        exact pl_left p al sz f (wr + 1) (by push_cast; omega) ho'
theorem stopAt_off {p : Int} {d : Dk} (al : List AT) (h : ¬ (d.wr : Int) < p) : stopAt p d al = d := by
  cases al with
  | nil => rfl
  | cons a al => exact if_neg h
theorem stopAt_on {p : Int} {d : Dk} {al : List AT} {i : Nat} {a : AT} (ha : al[i]? = some a) (h : (d.wr : Int) < p) : stopAt p d (al.drop i) = stopAt p (acD d a.ac) (al.drop (i + 1)) := by
  obtain ⟨hi, e⟩ := List.getElem?_eq_some_iff.1 ha
  rw [List.drop_eq_getElem_cons hi, e]
  exact if_pos h
theorem row_cell {x : World} {a : Option Addr} {ns : List ByteArray} {i : Nat} {s : ByteArray} (h : RowX eS x a ns) (hi : ns[i]? = some s) : ∃ g o, a = some ⟨g, o, none⟩ ∧ x.cell? ⟨g, o + i, none⟩ = some (.string s) := by
  obtain ⟨g, o, e, hr⟩ := h.at hi
  refine ⟨g, o, e, ?_⟩
  have := hr 0 _ rfl
  rwa [show o + i * eS.n + 0 = o + i from (by show o + i * 1 + 0 = _; omega)] at this
end Go.Proofs.YtcmkjjlchljffaaDoor
