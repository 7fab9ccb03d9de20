/- Joined texts of the proof. -/
import Derived.Test.YtcmkjjlchljffaaDoorJ2
import Derived.Test.YtcmkjjlchljffaaDoorJ1
import Derived.Maps.OwnSet
import Derived.StringKeys
import Derived.LaidEqlPtr
import Derived.Shelf.Strings.SlTrimAscii
import Derived.Shelf.LaysM
import Derived.Shelf.Strconv.Clone
import Derived.Shelf.SlIter.Nil
import Derived.Shelf.SortM.Plain
import Derived.Shelf.SortM.SortNone
import Derived.Test.YtcmkjjlchljffaaDoorProg
import Derived.Lib.SliceRun

/- Disks stay fine: the mathematics of the calls. -/
namespace Go.Proofs.YtcmkjjlchljffaaDoor
open Go.RowKit
set_option linter.unusedVariables false

theorem bl_irr : ∀ x : List UInt8, Op.bytesLess x x = false
  | [] => rfl
  | a :: x => by simp [Op.bytesLess, bl_irr x]
theorem bl_trans : ∀ {x y z : List UInt8}, Op.bytesLess x y = true → Op.bytesLess y z = true → Op.bytesLess x z = true
  | x, [], z, h, _ => by cases x <;> simp [Op.bytesLess] at h
  | x, _ :: _, [], _, h => by simp [Op.bytesLess] at h
  | [], _ :: _, _ :: _, _, _ => rfl
  | a :: x, b :: y, c :: z, h1, h2 => by
    simp only [Op.bytesLess, Bool.or_eq_true, decide_eq_true_eq, Bool.and_eq_true, beq_iff_eq] at h1 h2 ⊢
    rcases h1 with h1 | ⟨rfl, h1⟩
    · rcases h2 with h2 | ⟨rfl, h2⟩
      · exact .inl (UInt8.lt_trans h1 h2)
      · exact .inl h1
    · rcases h2 with h2 | ⟨rfl, h2⟩
      · exact .inl h2
      · exact .inr ⟨rfl, bl_trans h1 h2⟩
theorem bl_total : ∀ {x y : List UInt8}, Op.bytesLess x y = false → x ≠ y → Op.bytesLess y x = true
  | [], [], _, h => absurd rfl h
  | [], _ :: _, h, _ => by simp [Op.bytesLess] at h
  | _ :: _, [], _, _ => rfl
  | a :: x, b :: y, h, hne => by
    simp only [Op.bytesLess, Bool.or_eq_false_iff, decide_eq_false_iff_not, Bool.and_eq_false_imp, beq_iff_eq] at h
    simp only [Op.bytesLess, Bool.or_eq_true, decide_eq_true_eq, Bool.and_eq_true, beq_iff_eq]
    by_cases hab : a = b
    · subst hab
      exact .inr ⟨rfl, bl_total (h.2 rfl) fun e => hne (by rw [e])⟩
    · left
      rcases UInt8.lt_or_lt_of_ne hab with q | q
      · exact absurd q h.1
      · exact q
theorem ltN_irr (a : ByteArray) : ltN a a = false := bl_irr _
theorem ltN_trans {a b c : ByteArray} (h1 : ltN a b = true) (h2 : ltN b c = true) : ltN a c = true := bl_trans h1 h2
theorem insL_mem {f : Fi} : ∀ {fs : List Fi} {x : Fi}, x ∈ insL f fs → x = f ∨ x ∈ fs
  | [], x, h => by simp [insL] at h; exact .inl h
  | a :: fs, x, h => by
    unfold insL at h
    split at h
    · rcases List.mem_cons.1 h with h | h
      · exact .inl h
      · exact .inr h
    · rcases List.mem_cons.1 h with h | h
      · exact .inr (h ▸ List.mem_cons_self)
      · exact (insL_mem h).imp id (List.mem_cons_of_mem _)
theorem insL_sorted {f : Fi} : ∀ {fs : List Fi}, Sorted fs → (∀ x ∈ fs, isN f.nm x = false) → Sorted (insL f fs)
  | [], _, _ => List.pairwise_singleton _ _
  | a :: fs, hs, hn => by
    have hs' := List.pairwise_cons.1 hs
    unfold insL
    split
    · rename_i hl
      refine List.pairwise_cons.2 ⟨fun x hx => ?_, hs⟩
      rcases List.mem_cons.1 hx with rfl | hx
      · exact hl
      · exact ltN_trans hl (hs'.1 x hx)
    · rename_i hl
      refine List.pairwise_cons.2 ⟨fun x hx => ?_, insL_sorted hs'.2 fun x hx => hn x (List.mem_cons_of_mem _ hx)⟩
      rcases insL_mem hx with rfl | hx
      · refine bl_total (Bool.eq_false_iff.2 hl) fun e => ?_
        have := hn a List.mem_cons_self
        simp [isN, e] at this
      · exact hs'.1 x hx
theorem setL_nm {nm : ByteArray} {u : Fi → Fi} (hu : ∀ f, (u f).nm = f.nm) : ∀ fs : List Fi, (setL nm u fs).map Fi.nm = fs.map Fi.nm
  | [] => rfl
  | a :: fs => by
    unfold setL
    split
    · simp [hu]
    · simp [setL_nm hu fs]
theorem sorted_nm {fs gs : List Fi} (h : gs.map Fi.nm = fs.map Fi.nm) (hs : Sorted fs) : Sorted gs := by
  have e : ∀ l : List Fi, Sorted l ↔ (l.map Fi.nm).Pairwise fun a b => ltN a b = true := fun l => by unfold Sorted; rw [List.pairwise_map]
  rw [e] at hs ⊢
  rw [h]
  exact hs
theorem setL_sorted {nm : ByteArray} {u : Fi → Fi} (hu : ∀ f, (u f).nm = f.nm) {fs : List Fi} (h : Sorted fs) : Sorted (setL nm u fs) := sorted_nm (setL_nm hu fs) h
theorem filter_sorted {p : Fi → Bool} {fs : List Fi} (h : Sorted fs) : Sorted (fs.filter p) := h.filter p
theorem usedL_cons (a : Fi) (fs : List Fi) : usedL (a :: fs) = a.bs.length + usedL fs := by simp [usedL]
theorem insL_used (f : Fi) : ∀ fs : List Fi, usedL (insL f fs) = f.bs.length + usedL fs
  | [] => by simp [insL, usedL]
  | a :: fs => by
    unfold insL
    split
    · rw [usedL_cons]
    · rw [usedL_cons, usedL_cons, insL_used f fs]; omega
theorem insL_len (f : Fi) : ∀ fs : List Fi, (insL f fs).length = fs.length + 1
  | [] => rfl
  | a :: fs => by
    unfold insL
    split
    · rfl
    · simp [insL_len f fs]
theorem setL_used {nm : ByteArray} {u : Fi → Fi} : ∀ {fs : List Fi} {f : Fi}, fs.find? (isN nm) = some f → usedL (setL nm u fs) + f.bs.length = usedL fs + (u f).bs.length
  | a :: fs, f, h => by
    unfold setL
    cases hb : isN nm a with
    | true =>
      rw [List.find?_cons_of_pos hb] at h
      cases h
      simp only [if_true]
      rw [usedL_cons, usedL_cons]
      omega
    | false =>
      rw [List.find?_cons_of_neg (by rw [hb]; simp)] at h
      have := setL_used (u := u) h
      simp only [Bool.false_eq_true, if_false]
      rw [usedL_cons, usedL_cons]
      omega
theorem setL_len {nm : ByteArray} {u : Fi → Fi} : ∀ fs : List Fi, (setL nm u fs).length = fs.length
  | [] => rfl
  | a :: fs => by unfold setL; split <;> simp [setL_len fs]
theorem setL_mem {nm : ByteArray} {u : Fi → Fi} : ∀ {fs : List Fi} {x : Fi}, x ∈ setL nm u fs → x ∈ fs ∨ ∃ f, fs.find? (isN nm) = some f ∧ x = u f
  | a :: fs, x, h => by
    unfold setL at h
    cases hb : isN nm a with
    | true =>
      rw [hb] at h
      simp only [if_true] at h
      rcases List.mem_cons.1 h with h | h
      · exact .inr ⟨a, List.find?_cons_of_pos hb, h⟩
      · exact .inl (List.mem_cons_of_mem _ h)
    | false =>
      rw [hb] at h
      simp only [Bool.false_eq_true, if_false] at h
      rcases List.mem_cons.1 h with h | h
      · exact .inl (h ▸ List.mem_cons_self)
      · rcases setL_mem h with h | ⟨f, h1, h2⟩
        · exact .inl (List.mem_cons_of_mem _ h)
        · exact .inr ⟨f, by rw [List.find?_cons_of_neg (by rw [hb]; simp)]; exact h1, h2⟩
theorem filter_used (p : Fi → Bool) : ∀ fs : List Fi, usedL (fs.filter p) ≤ usedL fs
  | [] => Nat.le_refl _
  | a :: fs => by
    have := filter_used p fs
    by_cases h : p a = true
    · rw [List.filter_cons_of_pos h, usedL_cons, usedL_cons]; omega
    · rw [List.filter_cons_of_neg h, usedL_cons]; omega
theorem filter_used2 {p : Fi → Bool} {f : Fi} : ∀ {fs : List Fi}, f ∈ fs → p f = false → usedL (fs.filter p) + f.bs.length ≤ usedL fs ∧ (fs.filter p).length + 1 ≤ fs.length
  | a :: fs, hm, hf => by
    by_cases h : p a = true
    · rcases List.mem_cons.1 hm with rfl | hm
      · rw [hf] at h; cases h
      · obtain ⟨h1, h2⟩ := filter_used2 hm hf
        rw [List.filter_cons_of_pos h, usedL_cons, usedL_cons, List.length_cons, List.length_cons]
        exact ⟨by omega, by omega⟩
    · rw [List.filter_cons_of_neg h, usedL_cons, List.length_cons]
      have h3 := filter_used p fs
      have h4 := List.length_filter_le p fs
      rcases List.mem_cons.1 hm with rfl | hm
      · exact ⟨by omega, by omega⟩
      · obtain ⟨h1, h2⟩ := filter_used2 hm hf
        exact ⟨by omega, by omega⟩
/-- A disk that is fine, and whose names rise; so many writes at most were done. -/
structure Gd (n : Nat) (d : Dk) : Prop where
  sz : d.sz ≤ 67108864
  us : usedL d.fs ≤ d.sz
  ln : d.fs.length ≤ 256
  lf : -1 ≤ d.lf
  lg : d.lf ≤ 9223372036854775807
  wr : d.wr ≤ n
  sf : ∀ f ∈ d.fs, f.sf ≤ f.bs.length
  so : Sorted d.fs
theorem Gd.fine {n : Nat} {d : Dk} (h : Gd n d) (hn : n ≤ 4611686018427387904) : Fine d := ⟨h.sz, h.us, h.ln, h.lf, h.lg, by have := h.wr; omega, h.sf⟩
theorem Gd.more {n m : Nat} {d : Dk} (h : Gd n d) (hn : n ≤ m) : Gd m d := ⟨h.sz, h.us, h.ln, h.lf, h.lg, Nat.le_trans h.wr hn, h.sf, h.so⟩
theorem Gd.pw {n : Nat} {d : Dk} (h : Gd n d) {fs : List Fi} (h1 : usedL fs ≤ d.sz) (h2 : fs.length ≤ 256) (h3 : ∀ f ∈ fs, f.sf ≤ f.bs.length) (h4 : Sorted fs) : Gd (n + 1) { pwD d with fs := fs } := by
  have h5 := h.lf
  have h6 := h.lg
  have h7 := h.wr
  refine ⟨h.sz, h1, h2, ?_, ?_, ?_, h3, h4⟩
  · show -1 ≤ (if 0 < d.lf then d.lf - 1 else d.lf)
    split <;> omega
  · show (if 0 < d.lf then d.lf - 1 else d.lf) ≤ _
    split <;> omega
  · show d.wr + 1 ≤ n + 1
    omega
section
variable {n : Nat} {d : Dk} {nm to : ByteArray} {z : Int} {b : List UInt8} {torn : List Int}
theorem find_mem {fs : List Fi} {f : Fi} (h : fs.find? (isN nm) = some f) : f ∈ fs ∧ isN nm f = true := ⟨List.mem_of_find?_eq_some h, List.find?_some h⟩
theorem gd_ap (h : Gd n d) : Gd (n + 1) (apO d nm b).1 := by
  unfold apO
  split
  · exact h.more (Nat.le_succ _)
  split
  · exact h.more (Nat.le_succ _)
  rename_i hnb
  split
  · exact h.more (Nat.le_succ _)
  have hu : usedL d.fs + b.length ≤ d.sz := Nat.le_of_not_lt fun q => hnb (.inr q)
  cases hf : d.fs.find? (isN nm) with
  | none =>
    have hl : d.fs.length < 256 := Nat.lt_of_not_le fun q => hnb (.inl ⟨hf, q⟩)
    have e : hasL nm d.fs = insL (fil0 nm) d.fs := by rw [hasL, hf]; rfl
    have hfi := insL_find hf
    rw [e]
    refine h.pw ?_ ?_ ?_ ?_
    · have := setL_used (u := fun f => { f with bs := f.bs ++ b }) hfi
      have e2 : usedL (insL (fil0 nm) d.fs) = usedL d.fs := by rw [insL_used]; exact Nat.zero_add _
      simp only [List.length_append] at this
      omega
    · rw [setL_len, insL_len]; omega
    · intro x hx
      rcases setL_mem hx with hx | ⟨f, h1, rfl⟩
      · rcases insL_mem hx with rfl | hx
        · exact Nat.le_refl _
        · exact h.sf x hx
      · rw [hfi] at h1
        cases h1
        exact Nat.zero_le _
    · refine setL_sorted ?_ (insL_sorted h.so fun x hx => ?_)
      · intro f; rfl
      have := List.find?_eq_none.1 hf x hx
      exact Bool.eq_false_iff.2 this
  | some f =>
    have e : hasL nm d.fs = d.fs := by rw [hasL, hf]; rfl
    rw [e]
    refine h.pw ?_ (by rw [setL_len]; exact h.ln) ?_ (by refine setL_sorted ?_ h.so; intro f; rfl)
    · have := setL_used (u := fun f => { f with bs := f.bs ++ b }) hf
      simp only [List.length_append] at this
      omega
    · intro x hx
      rcases setL_mem hx with hx | ⟨g, h1, rfl⟩
      · exact h.sf x hx
      · have := h.sf g (find_mem h1).1
        simp only [List.length_append]
        omega
theorem gd_ct (h : Gd n d) : Gd (n + 1) (ctO d nm z).1 := by
  unfold ctO
  split
  · exact h.more (Nat.le_succ _)
  rename_i f hf
  split
  · exact h.more (Nat.le_succ _)
  rename_i hz
  split
  · exact h.more (Nat.le_succ _)
  split
  · exact h.more (Nat.le_succ _)
  refine h.pw ?_ (by rw [setL_len]; exact h.ln) ?_ (by refine setL_sorted ?_ h.so; intro f; rfl)
  · have := setL_used (u := fun f => { f with bs := f.bs.take z.toNat, sf := z.toNat, hd := true }) hf
    have h1 := h.us
    simp only [List.length_take] at this
    omega
  · intro x hx
    rcases setL_mem hx with hx | ⟨g, h1, rfl⟩
    · exact h.sf x hx
    · rw [hf] at h1
      cases h1
      simp only [List.length_take]
      omega
theorem gd_sy (h : Gd n d) : Gd (n + 1) (syO d nm).1 := by
  unfold syO
  split
  · exact h.more (Nat.le_succ _)
  rename_i hf0
  split
  · exact h.more (Nat.le_succ _)
  cases hf : d.fs.find? (isN nm) with
  | none => rw [hf] at hf0; exact absurd rfl hf0
  | some f =>
    refine h.pw ?_ (by rw [setL_len]; exact h.ln) ?_ (by refine setL_sorted ?_ h.so; intro f; rfl)
    · have := setL_used (u := fun f => { f with sf := f.bs.length, hd := true }) hf
      have h1 := h.us
      simp only at this
      omega
    · intro x hx
      rcases setL_mem hx with hx | ⟨g, h1, rfl⟩
      · exact h.sf x hx
      · exact Nat.le_refl _
theorem gd_rm (h : Gd n d) : Gd (n + 1) (rmO d nm).1 := by
  unfold rmO
  split
  · exact h.more (Nat.le_succ _)
  split
  · exact h.more (Nat.le_succ _)
  exact h.pw (Nat.le_trans (filter_used _ _) h.us) (Nat.le_trans (List.length_filter_le _ _) h.ln) (fun x hx => h.sf x (List.mem_filter.1 hx).1) (filter_sorted h.so)
theorem gd_rn (h : Gd n d) : Gd (n + 1) (rnO d nm to).1 := by
  unfold rnO
  split
  · exact h.more (Nat.le_succ _)
  split
  · exact h.more (Nat.le_succ _)
  rename_i f hf
  split
  · exact h.more (Nat.le_succ _)
  split
  · exact h.more (Nat.le_succ _)
  split
  · exact h.pw h.us h.ln h.sf h.so
  obtain ⟨hm, hn⟩ := find_mem hf
  obtain ⟨u1, u2⟩ := filter_used2 (p := fun f => !isN nm f) hm (by rw [hn]; rfl)
  have u3 := filter_used (fun f => !isN to f) (d.fs.filter fun f => !isN nm f)
  have u4 := List.length_filter_le (fun f => !isN to f) (d.fs.filter fun f => !isN nm f)
  have h1 := h.us
  have h2 := h.ln
  refine h.pw (fs := insL { f with nm := to, hd := true } ((d.fs.filter fun f => !isN nm f).filter fun f => !isN to f)) ?_ ?_ ?_ ?_
  · rw [insL_used]
    show f.bs.length + _ ≤ _
    omega
  · rw [insL_len]
    omega
  · intro x hx
    rcases insL_mem hx with rfl | hx
    · exact h.sf f hm
    · exact h.sf x (List.mem_filter.1 (List.mem_filter.1 hx).1).1
  · refine insL_sorted (filter_sorted (filter_sorted h.so)) fun x hx => ?_
    have := (List.mem_filter.1 hx).2
    simpa using this
theorem gd_st (h : Gd n d) (hz : z ≤ 9223372036854775807) : Gd (n + 1) (stD d z) := by
  unfold stD
  split
  · exact h.more (Nat.le_succ _)
  refine ⟨h.sz, h.us, h.ln, ?_, ?_, Nat.le_succ_of_le h.wr, h.sf, h.so⟩
  · show -1 ≤ (if d.lf = 0 then 0 else z)
    split <;> omega
  · show (if d.lf = 0 then 0 else z) ≤ _
    split <;> omega
theorem crOne_ok (torn : List Int) (k : Nat) (f : Fi) (hf : f.sf ≤ f.bs.length) : (crOne torn k f).1.sf ≤ (crOne torn k f).1.bs.length ∧ (crOne torn k f).1.bs.length ≤ f.bs.length ∧ (crOne torn k f).1.nm = f.nm := by
  unfold crOne
  split
  · exact ⟨Nat.le_refl _, by simp only [List.length_take]; omega, rfl⟩
  · exact ⟨hf, Nat.le_refl _, rfl⟩
theorem crL_ok (torn : List Int) : ∀ (fs : List Fi) (k : Nat), (∀ f ∈ fs, f.sf ≤ f.bs.length) → Sorted fs → usedL (crL torn k fs) ≤ usedL fs ∧ (crL torn k fs).length ≤ fs.length ∧ (∀ x ∈ crL torn k fs, x.sf ≤ x.bs.length ∧ ∃ f ∈ fs, x.nm = f.nm) ∧ Sorted (crL torn k fs)
  | [], _, _, _ => ⟨Nat.le_refl _, Nat.le_refl _, fun x h => (by cases h), List.Pairwise.nil⟩
  | f :: fs, k, hf, hs => by
    have hs' := List.pairwise_cons.1 hs
    obtain ⟨q1, q2, q3⟩ := crOne_ok torn k f (hf f List.mem_cons_self)
    obtain ⟨i1, i2, i3, i4⟩ := crL_ok torn fs (crOne torn k f).2 (fun x hx => hf x (List.mem_cons_of_mem _ hx)) hs'.2
    unfold crL
    split
    · rw [List.singleton_append]
      refine ⟨?_, ?_, ?_, ?_⟩
      · rw [usedL_cons, usedL_cons]
        show (crOne torn k f).1.bs.length + _ ≤ _
        omega
      · rw [List.length_cons, List.length_cons]; omega
      · intro x hx
        rcases List.mem_cons.1 hx with rfl | hx
        · exact ⟨q1, f, List.mem_cons_self, q3⟩
        · obtain ⟨j1, g, j2, j3⟩ := i3 x hx
          exact ⟨j1, g, List.mem_cons_of_mem _ j2, j3⟩
      · refine List.pairwise_cons.2 ⟨fun x hx => ?_, i4⟩
        obtain ⟨_, g, j2, j3⟩ := i3 x hx
        show ltN (crOne torn k f).1.nm x.nm = true
        rw [q3, j3]
        exact hs'.1 g j2
    · rw [List.nil_append]
      refine ⟨by rw [usedL_cons]; omega, by rw [List.length_cons]; omega, fun x hx => ?_, i4⟩
      obtain ⟨j1, g, j2, j3⟩ := i3 x hx
      exact ⟨j1, g, List.mem_cons_of_mem _ j2, j3⟩
theorem gd_cr (h : Gd n d) : Gd (n + 1) (crD d torn) := by
  obtain ⟨q1, q2, q3, q4⟩ := crL_ok torn d.fs 0 h.sf h.so
  exact ⟨h.sz, Nat.le_trans q1 h.us, Nat.le_trans q2 h.ln, Int.le_refl _, by show (-1 : Int) ≤ _; omega, Nat.le_succ_of_le h.wr, fun x hx => (q3 x hx).1, q4⟩
theorem gd_ac (h : Gd n d) (a : Ac) (hz : a.z ≤ 9223372036854775807) : Gd (n + 1) (acD d a) := by
  unfold acD
  split
  · exact gd_ap h
  split
  · exact gd_ct h
  split
  · exact gd_sy h
  split
  · exact gd_rn h
  split
  · exact gd_rm h
  split
  · exact gd_st h hz
  split
  · exact gd_cr h
  · exact h.more (Nat.le_succ _)
end
end Go.Proofs.YtcmkjjlchljffaaDoor

/- Pairs of disks, the program's and the given answer's; two pairs, of which one may be the other. -/
namespace Go.Proofs.YtcmkjjlchljffaaDoor
open Go.RowKit
set_option linter.unusedVariables false

section
variable {U : Prop} {CD : CDT} {B gc gr oc og n m : Nat} {w w' : World} {W F W' F' S : Nat → Prop} {D : Dk}
/-- A new disk of the given answer's. -/
theorem RD.new {g z : Nat} (hB : B ≤ g) (hA : At 61 w g [.int .i64 (z : Int), .slice none 0 0, .int .i64 (-1), .int .i64 0]) : RD B w g (fun k => k = g) (fun k => k = g) ⟨z, [], -1, 0⟩ :=
  ⟨.slice none 0 0, [], hA, OwnX.nil _ _ _, rfl, fun f h => (by cases h), rfl, fun k h => (by cases h), fun k h => ⟨h, by omega⟩, fun k h => by rw [h]; exact hA.lt⟩
end
end Go.Proofs.YtcmkjjlchljffaaDoor

/- DiskScript, given what the program's disk tells. -/
namespace Go.Proofs.YtcmkjjlchljffaaDoor
open Go.RowKit
set_option linter.unusedVariables false

theorem AT.one (a : AT) : ∀ v ∈ a.cells, v.oneCell' = true := by
  intro v hv
  simp [AT.cells] at hv
  rcases hv with rfl | rfl | rfl | rfl | rfl | rfl <;> rfl
def eA : El AT := ⟨51, 84, 6, 96, .agg #[.int .i64 0, .string ⟨#[]⟩, .string ⟨#[]⟩, .int .i64 0, .slice none 0 0, .slice none 0 0], AT.cells, fun _ => rfl, AT.one, by kernel_rfl, by kernel_rfl, rfl, by decide⟩
theorem i33 : (Tryd.prog.info? 84).map (·.size) = some 6 := by kernel_rfl
theorem z33 : (Tryd.prog.info? 84).map (fun i => (i.zero, i.size)) = some (some (.agg [Value.int .i64 0, .string ⟨#[]⟩, .string ⟨#[]⟩, .int .i64 0, .slice none 0 0, .slice none 0 0].toArray), 6) := by kernel_rfl
theorem wpList_loadA {ops : Array Oper} {rest : List Oper} {o : Oper} {a : Act} {w : World} {Q : Exit → Act → World → Prop} (hgd : o.guard = none) (x : Operand) (ho : o.op = .load 84 x)
    (k off : Nat) (t : AT) (hx : a.eval x = .pointer (some ⟨k, off, none⟩)) (hr : w.rangeAt k off t.cells)
    (h : wpList Tryd.prog ops Q rest (a.put o.dst (.agg t.cells.toArray)) w) : wpList Tryd.prog ops Q (o :: rest) a w := by
  obtain ⟨d, h1, h2⟩ := u33
  exact wpList_load_mid hgd 84 x ho k off hx t.cells d hr h1 h2 i33 h
/-- A call that came in, however long its rows are. -/
structure AT.In0 (B : Nat) (w : World) (a : AT) : Prop where
  rb : Row w a.ba a.ac.b
  lb : a.ac.b.length ≤ a.bc
  nb : a.ba = none → a.bc = 0
  bb : a.ac.b ≠ [] → ∀ ad, a.ba = some ad → ad.block < B
  rt : RowX eI w a.ta a.ac.torn
  lt : a.ac.torn.length ≤ a.tc
  nt : a.ta = none → a.tc = 0
  tt : a.ac.torn ≠ [] → ∀ ad, a.ta = some ad → ad.block < B
  l3 : a.ac.nm.size ≤ 9223372036854775807
  l4 : a.ac.to.size ≤ 9223372036854775807
theorem AT.In0.to {B : Nat} {w : World} {a : AT} (h : a.In0 B w) (h1 : a.ac.b.length ≤ 1099511627776) (h2 : a.ac.torn.length ≤ 1099511627776) : a.In B w :=
  ⟨h.rb, h.lb, h.nb, h.bb, h.rt, h.lt, h.nt, h.tt, h1, h2, h.l3, h.l4⟩
theorem AT.In0.below {B : Nat} {w w' : World} {a : AT} (h : a.In0 B w) (hb : Below B w w') : a.In0 B w' :=
  ⟨h.rb.same0 fun q ad ha => hb.block _ (h.bb q ad ha), h.lb, h.nb, h.bb, h.rt.same0 fun q ad ha => hb.block _ (h.tt q ad ha), h.lt, h.nt, h.tt, h.l3, h.l4⟩
/-- Calls that came in. -/
structure ActsIn (w : World) (aa : Option Addr) (al : List AT) : Prop where
  row : RowX eA w aa al
  bb : ∀ ad, aa = some ad → ad.block < w.heap.size
  ins : ∀ a ∈ al, a.In0 w.heap.size w ∧ a.ac.z ≤ 9223372036854775807
end Go.Proofs.YtcmkjjlchljffaaDoor

/- One disk of the program's, call by call; awake. -/
namespace Go.Proofs.YtcmkjjlchljffaaDoor
open Go.RowKit
set_option linter.unusedVariables false

/-- The program's disk is D. -/
def Sta (CD : CDT) (B : Nat) (w : World) (g n : Nat) (D : Dk) (S : Nat → Prop) : Prop := ∃ W F, CD B w g W F D ∧ Gd n D ∧ ∀ k, S k → ¬ F k ∧ k < w.heap.size
/-- Blocks that stand. -/
def Std (S : Nat → Prop) (x x' : World) : Prop := ∀ k, S k → x'.heap[k]? = x.heap[k]?
/-- The block of a row that is not empty. -/
def blkS (a : Option Addr) (b : List UInt8) : Nat → Prop := fun k => b ≠ [] ∧ ∃ ad, a = some ad ∧ ad.block = k
theorem Row.std {x x' : World} {a : Option Addr} {b : List UInt8} {S : Nat → Prop} (h : Row x a b) (hs : Std S x x') (hS : ∀ k, blkS a b k → S k) : Row x' a b := by
  by_cases hb : b = []
  · exact .inl hb
  · exact h.same fun ad ha => hs _ (hS _ ⟨hb, ad, ha, rfl⟩)
section
variable {U : Prop} {CD : CDT} {B g n e : Nat} {x x' : World} {D D' : Dk} {nm to : ByteArray} {z : Int} {S : Nat → Prop}
theorem Sta.below (Fa : Face U CD) (h : Sta CD B x g n D S) (hb : Below x.heap.size x x') : Sta CD B x' g n D S := by
  obtain ⟨W, F, h1, h2, h3⟩ := h
  exact ⟨W, F, Fa.below h1 hb, h2, fun k hk => ⟨(h3 k hk).1, Nat.lt_of_lt_of_le (h3 k hk).2 hb.size⟩⟩
theorem Sta.std (h : Sta CD B x g n D S) (hb : Below x.heap.size x x') : Std S x x' := by
  obtain ⟨W, F, h1, h2, h3⟩ := h
  exact fun k hk => hb.block k (h3 k hk).2
theorem sta_of {W F : Nat → Prop} {o : Dk × Int} {r : Ending} (Fa : Face U CD) (h1 : CD B x g W F D) (hB : B ≤ x.heap.size) (hS : ∀ k, S k → ¬ F k ∧ k < x.heap.size) (hg : Gd (n + 1) o.1) (h : PostC CD B g W F x o r x') : r = .returned (.int .i64 o.2) ∧ Sta CD B x' g (n + 1) o.1 S ∧ Below B x x' ∧ Std S x x' := by
  obtain ⟨rfl, W', F', q1, q2⟩ := h
  exact ⟨rfl, ⟨W', F', q1, hg, fun k hk => ⟨fun q => (q2.rd k q).elim (hS k hk).1 (by have := (hS k hk).2; omega), Nat.lt_of_lt_of_le (hS k hk).2 q2.chg.size⟩⟩, q2.chg.below hB fun k hk => (Fa.wf h1 k hk).2, fun k hk => q2.chg.block k (hS k hk).2 fun q => (hS k hk).1 (Fa.wf h1 k q).1⟩
theorem Sta.app (Fa : Face U CD) {W : Nat → Prop} {cs : List Value} {b : List UInt8} {o : Dk × Int} (h : Sta CD B x g n D S) (hB : B ≤ x.heap.size) (hn : n ≤ 1048576) (hs : nm.size ≤ 9223372036854775807) (hc : cs = b.map B8) (hl : b.length ≤ 1048576) (ho : apO D nm b = o) :
    Calls Tryd.prog 10 #[.pointer (some ⟨g, 0, none⟩), .string nm, .slice (some ⟨x.heap.size, 0, none⟩) b.length b.length] (x.alloc (.cells cs.toArray 5)) fun r w' => r = .returned (.int .i64 o.2) ∧ Sta CD B w' g (n + 1) o.1 S ∧ Below B x w' ∧ Std S x w' := by
  obtain ⟨W, F, h1, h2, h3⟩ := h
  have hb : Below x.heap.size x (x.alloc (.cells cs.toArray 5)) := (Below.refl _ x).alloc (Nat.le_refl _) _
  have hA : At 5 (x.alloc (.cells cs.toArray 5)) x.heap.size (b.map B8) := by rw [← hc]; exact _root_.Go.heap_alloc_new x _
  have hc1 := Fa.below h1 hb
  have hrow : Row (x.alloc (.cells cs.toArray 5)) (some ⟨x.heap.size, 0, none⟩) b := Blk.row_all (blk_at.2 hA)
  have hB' := Nat.le_trans hB hb.size
  have hS' : ∀ k, S k → ¬ F k ∧ k < _ := fun k hk => ⟨(h3 k hk).1, Nat.lt_of_lt_of_le (h3 k hk).2 hb.size⟩
  refine (Fa.append (nm := nm) hc1 (h2.fine (by omega)) h2.so hB' hs hrow rfl (Nat.le_refl _) (fun h => by cases h) (by omega) (fun _ ad ha => by cases ha; exact ⟨fun q => by have h9 := Fa.lt h1 _ (Fa.wf h1 _ q).1; exact absurd h9 (Nat.lt_irrefl _), hA.lt⟩)).mono ?_
  rintro r w' hp
  rw [ho] at hp
  obtain ⟨q1, q2, q3, q4⟩ := sta_of (n := n) Fa hc1 hB' hS' (by rw [← ho]; exact gd_ap h2) hp
  exact ⟨q1, q2, (hb.mono hB).trans q3, fun k hk => (q4 k hk).trans (hb.block k (h3 k hk).2)⟩
theorem Sta.sync (Fa : Face U CD) {o : Dk × Int} (h : Sta CD B x g n D S) (hB : B ≤ x.heap.size) (hn : n ≤ 1048576) (hs : nm.size ≤ 9223372036854775807) (ho : syO D nm = o) :
    Calls Tryd.prog 15 #[.pointer (some ⟨g, 0, none⟩), .string nm] x fun r w' => r = .returned (.int .i64 o.2) ∧ Sta CD B w' g (n + 1) o.1 S ∧ Below B x w' ∧ Std S x w' := by
  obtain ⟨W, F, h1, h2, h3⟩ := h
  refine (Fa.sync (nm := nm) h1 (h2.fine (by omega)) h2.so hB hs).mono ?_
  rintro r w' hp
  rw [ho] at hp
  exact sta_of Fa h1 hB h3 (by rw [← ho]; exact gd_sy h2) hp
theorem Sta.cut (Fa : Face U CD) {o : Dk × Int} (h : Sta CD B x g n D S) (hB : B ≤ x.heap.size) (hn : n ≤ 1048576) (hs : nm.size ≤ 9223372036854775807) (ho : ctO D nm z = o) :
    Calls Tryd.prog 14 #[.pointer (some ⟨g, 0, none⟩), .string nm, .int .i64 z] x fun r w' => r = .returned (.int .i64 o.2) ∧ Sta CD B w' g (n + 1) o.1 S ∧ Below B x w' ∧ Std S x w' := by
  obtain ⟨W, F, h1, h2, h3⟩ := h
  refine (Fa.cut (nm := nm) (z := z) h1 (h2.fine (by omega)) h2.so hB hs).mono ?_
  rintro r w' hp
  rw [ho] at hp
  exact sta_of Fa h1 hB h3 (by rw [← ho]; exact gd_ct h2) hp
theorem Sta.rename (Fa : Face U CD) {o : Dk × Int} (h : Sta CD B x g n D S) (hB : B ≤ x.heap.size) (hn : n ≤ 1048576) (hs : nm.size ≤ 9223372036854775807) (ht : to.size ≤ 9223372036854775807) (ho : rnO D nm to = o) :
    Calls Tryd.prog 16 #[.pointer (some ⟨g, 0, none⟩), .string nm, .string to] x fun r w' => r = .returned (.int .i64 o.2) ∧ Sta CD B w' g (n + 1) o.1 S ∧ Below B x w' ∧ Std S x w' := by
  obtain ⟨W, F, h1, h2, h3⟩ := h
  refine (Fa.rename (nm := nm) (to := to) h1 (h2.fine (by omega)) h2.so hB hs ht).mono ?_
  rintro r w' hp
  rw [ho] at hp
  exact sta_of Fa h1 hB h3 (by rw [← ho]; exact gd_rn h2) hp
theorem Sta.stop (Fa : Face U CD) {o : Dk × Int} (h : Sta CD B x g n D S) (hB : B ≤ x.heap.size) (hz : z ≤ 9223372036854775807) (ho : (stD D z, stZ z) = o) :
    Calls Tryd.prog 18 #[.pointer (some ⟨g, 0, none⟩), .int .i64 z] x fun r w' => r = .returned (.int .i64 o.2) ∧ Sta CD B w' g (n + 1) o.1 S ∧ Below B x w' ∧ Std S x w' := by
  obtain ⟨W, F, h1, h2, h3⟩ := h
  refine (Fa.stop (z := z) h1 hB).mono ?_
  rintro r w' hp
  rw [ho] at hp
  exact sta_of Fa h1 hB h3 (by rw [← ho]; exact gd_st h2 hz) hp
theorem Sta.crash (Fa : Face U CD) {cs : List Value} {torn : List Int} {d' : Dk} (h : Sta CD B x g n D S) (hB : B ≤ x.heap.size) (hn : n ≤ 1048576) (hc : cs = eI.flat torn) (hl : torn.length ≤ 1048576) (ho : crD D torn = d') :
    Calls Tryd.prog 19 #[.pointer (some ⟨g, 0, none⟩), .slice (some ⟨x.heap.size, 0, none⟩) torn.length torn.length] (x.alloc (.cells cs.toArray 3)) fun r w' => r = .returned (.int .i64 0) ∧ Sta CD B w' g (n + 1) d' S ∧ Below B x w' ∧ Std S x w' := by
  obtain ⟨W, F, h1, h2, h3⟩ := h
  have hb : Below x.heap.size x (x.alloc (.cells cs.toArray 3)) := (Below.refl _ x).alloc (Nat.le_refl _) _
  have hA : At 3 (x.alloc (.cells cs.toArray 3)) x.heap.size (eI.flat torn) := by rw [← hc]; exact _root_.Go.heap_alloc_new x _
  have hc1 := Fa.below h1 hb
  have hrow : RowX eI (x.alloc (.cells cs.toArray 3)) (some ⟨x.heap.size, 0, none⟩) torn := .inr ⟨_, 0, rfl, hA.rng⟩
  have hB' := Nat.le_trans hB hb.size
  have hS' : ∀ k, S k → ¬ F k ∧ k < _ := fun k hk => ⟨(h3 k hk).1, Nat.lt_of_lt_of_le (h3 k hk).2 hb.size⟩
  refine (Fa.crash hc1 (h2.fine (by omega)) h2.so hB' hrow rfl (Nat.le_refl _) (by omega) (fun ad ha => by cases ha; exact ⟨fun q => by have h9 := Fa.lt h1 _ (Fa.wf h1 _ q).1; exact absurd h9 (Nat.lt_irrefl _), hA.lt⟩)).mono ?_
  rintro r w' hp
  obtain ⟨q1, q2, q3, q4⟩ := sta_of (n := n) Fa hc1 hB' hS' (gd_cr h2) hp
  rw [ho] at q2
  exact ⟨q1, q2, (hb.mono hB).trans q3, fun k hk => (q4 k hk).trans (hb.block k (h3 k hk).2)⟩
theorem Sta.crashNil (Fa : Face U CD) {d' : Dk} (h : Sta CD B x g n D S) (hB : B ≤ x.heap.size) (hn : n ≤ 1048576) (ho : crD D [] = d') :
    Calls Tryd.prog 19 #[.pointer (some ⟨g, 0, none⟩), .slice none 0 0] x fun r w' => r = .returned (.int .i64 0) ∧ Sta CD B w' g (n + 1) d' S ∧ Below B x w' ∧ Std S x w' := by
  obtain ⟨W, F, h1, h2, h3⟩ := h
  refine (Fa.crash (torn := []) h1 (h2.fine (by omega)) h2.so hB (.inl rfl) rfl (Nat.le_refl _) (Nat.zero_le _) (fun ad ha => by cases ha)).mono ?_
  rintro r w' hp
  obtain ⟨q1, q2, q3, q4⟩ := sta_of (n := n) Fa h1 hB h3 (gd_cr h2) hp
  rw [ho] at q2
  exact ⟨q1, q2, q3, q4⟩
theorem Sta.loose (Fa : Face U CD) {v : Int} (h : Sta CD B x g n D S) (hn : n ≤ 1048576) (hs : nm.size ≤ 9223372036854775807) (hv : lsD D.fs nm = v) :
    Calls Tryd.prog 23 #[.pointer (some ⟨g, 0, none⟩), .string nm] x fun r w' => r = .returned (.int .i64 v) ∧ Below x.heap.size x w' := by
  obtain ⟨W, F, h1, h2, h3⟩ := h
  rw [← hv]
  exact Fa.loose h1 (h2.fine (by omega)) hs
theorem Sta.used (Fa : Face U CD) {v : Int} (h : Sta CD B x g n D S) (hn : n ≤ 1048576) (hv : (usedL D.fs : Int) = v) :
    Calls Tryd.prog 21 #[.pointer (some ⟨g, 0, none⟩)] x fun r w' => r = .returned (.int .i64 v) ∧ Below x.heap.size x w' := by
  obtain ⟨W, F, h1, h2, h3⟩ := h
  rw [← hv]
  exact Fa.used h1 (h2.fine (by omega))
theorem Sta.stopped (Fa : Face U CD) {v : Bool} (h : Sta CD B x g n D S) (hv : (D.lf == 0) = v) : Calls Tryd.prog 24 #[.pointer (some ⟨g, 0, none⟩)] x fun r w' => r = .returned (.bool v) ∧ Below x.heap.size x w' := by
  obtain ⟨W, F, h1, h2, h3⟩ := h
  rw [← hv]
  exact Fa.stopped h1
theorem Sta.names (Fa : Face U CD) {ns : List ByteArray} (h : Sta CD B x g n D S) (hn : n ≤ 1048576) (hv : D.fs.map Fi.nm = ns) : Calls Tryd.prog 20 #[.pointer (some ⟨g, 0, none⟩)] x fun r w' => ∃ a c, r = .returned (.slice a ns.length c) ∧ RowX eS w' a ns ∧ ns.length ≤ c ∧ Below x.heap.size x w' := by
  obtain ⟨W, F, h1, h2, h3⟩ := h
  refine (Fa.names h1 (h2.fine (by omega)) h2.so).mono ?_
  rintro r w' ⟨v, rfl, q1, q2⟩
  rw [hv] at q1
  obtain ⟨a, c, rfl, q3, q4⟩ := q1.row
  exact ⟨a, c, rfl, q4, q3, q2⟩
theorem Sta.read (Fa : Face U CD) {v : Int} {b : List UInt8} (h : Sta CD B x g n D S) (hn : n ≤ 1048576) (hs : nm.size ≤ 9223372036854775807) (hv : rdZ D nm = v) (hb : rdB D nm = b) :
    Calls Tryd.prog 13 #[.pointer (some ⟨g, 0, none⟩), .string nm] x fun r w' => ∃ a c, r = .returned (.tuple #[.slice a b.length c, .int .i64 v]) ∧ Row w' a b ∧ b.length ≤ c ∧ Below x.heap.size x w' ∧ Sta CD B w' g n D (fun k => S k ∨ blkS a b k) := by
  obtain ⟨W, F, h1, h2, h3⟩ := h
  refine (Fa.read (nm := nm) h1 (h2.fine (by omega)) hs).mono ?_
  rintro r w' ⟨u, rfl, q1, q2⟩
  rw [hb] at q1
  have hblk : ∀ a c, u = .slice a b.length c → ∀ k, blkS a b k → x.heap.size ≤ k ∧ k < w'.heap.size := by
    rintro a c e k ⟨hne, ad, rfl, rfl⟩
    rcases q1 with ⟨h0, _⟩ | ⟨h0, _⟩
    · exact absurd h0 hne
    · have := h0.block ad.block (by rw [e]; rfl)
      exact ⟨this.1, this.2.1⟩
  obtain ⟨a, c, e, q3, q4⟩ := q1.row
  have hk := hblk a c e
  subst e
  refine ⟨a, c, by rw [hv], q4, q3, q2, W, F, Fa.below h1 q2, h2, ?_⟩
  rintro k (q | q)
  · exact ⟨(h3 k q).1, Nat.lt_of_lt_of_le (h3 k q).2 q2.size⟩
  · exact ⟨fun p => by have := Fa.lt h1 k p; have := (hk k q).1; omega, (hk k q).2⟩
/-- Append of whatever row is new. -/
theorem Sta.appRow (Fa : Face U CD) {gb : Nat} {b : List UInt8} {o : Dk × Int} (h : Sta CD B x g n D S) (hb : Below x.heap.size x x') (hB : B ≤ x.heap.size) (hn : n ≤ 1048576) (hs : nm.size ≤ 9223372036854775807) (hrow : Row x' (some ⟨gb, 0, none⟩) b) (hg : x.heap.size ≤ gb) (hg2 : gb < x'.heap.size) (hl : b.length ≤ 1048576) (ho : apO D nm b = o) :
    Calls Tryd.prog 10 #[.pointer (some ⟨g, 0, none⟩), .string nm, .slice (some ⟨gb, 0, none⟩) b.length b.length] x' fun r w' => r = .returned (.int .i64 o.2) ∧ Sta CD B w' g (n + 1) o.1 S ∧ Below B x w' ∧ Std S x w' := by
  obtain ⟨W, F, h1, h2, h3⟩ := h
  have hc1 := Fa.below h1 hb
  have hB' := Nat.le_trans hB hb.size
  have hS' : ∀ k, S k → ¬ F k ∧ k < _ := fun k hk => ⟨(h3 k hk).1, Nat.lt_of_lt_of_le (h3 k hk).2 hb.size⟩
  refine (Fa.append (nm := nm) hc1 (h2.fine (by omega)) h2.so hB' hs hrow rfl (Nat.le_refl _) (fun h => by cases h) (by omega) (fun _ ad ha => by cases ha; exact ⟨fun q => by have h9 : gb < x.heap.size := Fa.lt h1 _ (Fa.wf h1 _ q).1; omega, hg2⟩)).mono ?_
  rintro r w' hp
  rw [ho] at hp
  obtain ⟨q1, q2, q3, q4⟩ := sta_of (n := n) Fa hc1 hB' hS' (by rw [← ho]; exact gd_ap h2) hp
  exact ⟨q1, q2, (hb.mono hB).trans q3, fun k hk => (q4 k hk).trans (hb.block k (h3 k hk).2)⟩
end
def nA : ByteArray := ⟨#[97]⟩
theorem size_a : (ByteArray.mk #[97]).size ≤ 9223372036854775807 := by decide
theorem w1_ap : apO ⟨10, [], -1, 0⟩ ⟨#[97]⟩ [1, 2] = (⟨10, [⟨⟨#[97]⟩, [1, 2], 0, false⟩], -1, 1⟩, 0) := by kernel_rfl
theorem w2_sy : syO ⟨10, [⟨⟨#[97]⟩, [1, 2], 0, false⟩], -1, 1⟩ ⟨#[97]⟩ = (⟨10, [⟨⟨#[97]⟩, [1, 2], 2, true⟩], -1, 2⟩, 0) := by kernel_rfl
theorem w3_ap : apO ⟨10, [⟨⟨#[97]⟩, [1, 2], 2, true⟩], -1, 2⟩ ⟨#[97]⟩ [3, 4] = (⟨10, [⟨⟨#[97]⟩, [1, 2, 3, 4], 2, true⟩], -1, 3⟩, 0) := by kernel_rfl
theorem w4_cr : crD ⟨10, [⟨⟨#[97]⟩, [1, 2, 3, 4], 2, true⟩], -1, 3⟩ [1] = ⟨10, [⟨⟨#[97]⟩, [1, 2, 3], 3, true⟩], -1, 3⟩ := by kernel_rfl
set_option maxRecDepth 100000 in
set_option maxHeartbeats 6400000 in
theorem awake_of {U : Prop} {CD : CDT} (Fa : Face U CD) (w : World) : Calls Tryd.prog 27 #[] w fun r w' => r = .returned (.bool true) ∧ Below w.heap.size w w' := by
  have H1 := hidU (Fa.newOk (n := 10) (w := w) w.heap.size (by decide) (by decide) (Nat.le_refl _))
  go_enter Tryd.func27, Tryd.ntmps27
  go_wp2_with (go_at_call 8; refine H1.out.mono ?_; rintro _ w1 ⟨g, W1, F1, rfl, hc1, hb1, _⟩; refine Hid.out ?_)
  refine hidU ?_
  have hs1 : Sta CD w.heap.size w1 g 0 ⟨10, [], -1, 0⟩ (fun _ => False) := ⟨W1, F1, hc1, ⟨by decide, Nat.zero_le _, Nat.zero_le _, Int.le_refl _, by show (-1 : Int) ≤ _; omega, Nat.le_refl _, fun f h => (by cases h), List.Pairwise.nil⟩, fun _ h => h.elim⟩
  have HB1 := hidU hb1
  have H2 := hidU (hs1.app Fa (W := W1) (cs := [.int .u8 1, .int .u8 2]) hb1.size (by omega) size_a (by kernel_rfl) (by decide) w1_ap)
  clear hc1 hb1 hs1 H1
  go_wp2_with (go_at_call 10; refine H2.out.mono ?_; rintro _ w2 ⟨rfl, hs2, hb2, _⟩; refine Hid.out ?_)
  refine hidU ?_
  have HB2 := hidU (HB1.out.trans hb2)
  have H3 := hidU (hs2.sync Fa HB2.out.size (by omega) size_a w2_sy)
  clear hs2 hb2 H2
  go_wp2_with (go_at_call 15; refine H3.out.mono ?_; rintro _ w3 ⟨rfl, hs3, hb3, _⟩; refine Hid.out ?_)
  refine hidU ?_
  have HB3 := hidU (HB2.out.trans hb3)
  have H4 := hidU (hs3.app Fa (W := W1) (cs := [.int .u8 3, .int .u8 4]) HB3.out.size (by omega) size_a (by kernel_rfl) (by decide) w3_ap)
  clear hs3 hb3 H3
  go_wp2_with (go_at_call 10; refine H4.out.mono ?_; rintro _ w4 ⟨rfl, hs4, hb4, _⟩; refine Hid.out ?_)
  refine hidU ?_
  have HB4 := hidU (HB3.out.trans hb4)
  have HS4 := hidU hs4
  have H5 := hidU (hs4.loose Fa (v := 2) (by omega) size_a (by kernel_rfl))
  clear hs4 hb4 H4
  go_wp2_with (go_at_call 23; refine H5.out.mono ?_; rintro _ w5 ⟨rfl, hb5⟩; refine Hid.out ?_)
  refine hidU ?_
  have HB5 := hidU (HB4.out.trans (hb5.mono HB4.out.size))
  have HS5 := hidU (HS4.out.below Fa hb5)
  have H6 := hidU (HS5.out.used Fa (v := 4) (by omega) (by kernel_rfl))
  clear hb5 H5 HS4
  go_wp2_with (go_at_call 21; refine H6.out.mono ?_; rintro _ w6 ⟨rfl, hb6⟩; refine Hid.out ?_)
  refine hidU ?_
  have HB6 := hidU (HB5.out.trans (hb6.mono HB5.out.size))
  have HS6 := hidU (HS5.out.below Fa hb6)
  have H7 := hidU (HS6.out.crash Fa (cs := [.int .i64 1]) HB6.out.size (by omega) (by kernel_rfl) (by decide) w4_cr)
  clear hb6 H6 HS5
  go_wp2_with (go_at_call 19; refine H7.out.mono ?_; rintro _ w7 ⟨rfl, hs7, hb7, _⟩; refine Hid.out ?_)
  refine hidU ?_
  have HB7 := hidU (HB6.out.trans hb7)
  have HS7 := hidU hs7
  have H8 := hidU (hs7.read Fa (v := 0) (b := [1, 2, 3]) (by omega) size_a (by kernel_rfl) (by kernel_rfl))
  clear hs7 hb7 H7
  go_wp2_with (go_at_call 13; refine H8.out.mono ?_; rintro _ w8 ⟨a8, c8, rfl, hr8, _, hb8, _⟩; refine Hid.out ?_)
  refine hidU ?_
  have HB8 := hidU (HB7.out.trans (hb8.mono HB7.out.size))
  have HS8 := hidU (HS7.out.below Fa hb8)
  have hbn : Below w8.heap.size w8 (w8.alloc (.cells #[.int .u8 1, .int .u8 2, .int .u8 3] 5)) := (Below.refl _ w8).alloc (Nat.le_refl _) _
  have hA8 : At 5 (w8.alloc (.cells #[.int .u8 1, .int .u8 2, .int .u8 3] 5)) w8.heap.size (([1, 2, 3] : List UInt8).map B8) := _root_.Go.heap_alloc_new w8 _
  have H9 := hidU (same_any a8 (some ⟨w8.heap.size, 0, none⟩) c8 3 [1, 2, 3] [1, 2, 3] _ (hr8.below hbn) (Blk.row_all (blk_at.2 hA8)))
  have HS9 := hidU (HS8.out.below Fa hbn)
  have HB9 := hidU (HB8.out.trans (hbn.mono HB8.out.size))
  have H10 := hidU (HS9.out.loose Fa (nm := ⟨#[97]⟩) (v := 0) (by omega) size_a (by kernel_rfl))
  clear hr8 hb8 H8 hbn hA8
  go_wp2_with (first | (go_at_call 31; refine H9.out.mono ?_; rintro _ w9 ⟨rfl, hw9⟩; subst hw9) | (go_at_call 23; refine H10.out.mono ?_; rintro _ w10 ⟨rfl, hb10⟩; refine Hid.out ?_))
  refine hidU ?_
  have HBf := hidU (HB9.out.trans (hb10.mono HB9.out.size))
  clear hb10
  go_wp2
  go_ret
  exact ⟨rfl, HBf.out⟩
end Go.Proofs.YtcmkjjlchljffaaDoor

/- DiskKnown, given what the program's disk tells. -/
namespace Go.Proofs.YtcmkjjlchljffaaDoor
open Go.RowKit
set_option linter.unusedVariables false

theorem kn0 : apO ⟨10, [], -1, 0⟩ ⟨#[97]⟩ [1, 2] = (⟨10, [⟨⟨#[97]⟩, [1, 2], 0, false⟩], -1, 1⟩, 0) := by kernel_rfl
theorem kn1 : syO ⟨10, [⟨⟨#[97]⟩, [1, 2], 0, false⟩], -1, 1⟩ ⟨#[97]⟩ = (⟨10, [⟨⟨#[97]⟩, [1, 2], 2, true⟩], -1, 2⟩, 0) := by kernel_rfl
theorem kn2 : apO ⟨10, [⟨⟨#[97]⟩, [1, 2], 2, true⟩], -1, 2⟩ ⟨#[97]⟩ [3, 4] = (⟨10, [⟨⟨#[97]⟩, [1, 2, 3, 4], 2, true⟩], -1, 3⟩, 0) := by kernel_rfl
theorem kn3 : crD ⟨10, [⟨⟨#[97]⟩, [1, 2, 3, 4], 2, true⟩], -1, 3⟩ [1] = ⟨10, [⟨⟨#[97]⟩, [1, 2, 3], 3, true⟩], -1, 3⟩ := by kernel_rfl
theorem kn4 : apO ⟨10, [⟨⟨#[97]⟩, [1, 2, 3], 3, true⟩], -1, 3⟩ ⟨#[98]⟩ [9] = (⟨10, [⟨⟨#[97]⟩, [1, 2, 3], 3, true⟩, ⟨⟨#[98]⟩, [9], 0, false⟩], -1, 4⟩, 0) := by kernel_rfl
theorem kn5 : crD ⟨10, [⟨⟨#[97]⟩, [1, 2, 3], 3, true⟩, ⟨⟨#[98]⟩, [9], 0, false⟩], -1, 4⟩ [] = ⟨10, [⟨⟨#[97]⟩, [1, 2, 3], 3, true⟩], -1, 4⟩ := by kernel_rfl
theorem kn6 : ((⟨10, [⟨⟨#[97]⟩, [1, 2, 3], 3, true⟩], -1, 4⟩ : Dk).fs.map Fi.nm) = [⟨#[97]⟩] := by kernel_rfl
theorem kn7 : apO ⟨10, [⟨⟨#[97]⟩, [1, 2, 3], 3, true⟩], -1, 4⟩ ⟨#[97]⟩ [0, 0, 0, 0, 0, 0, 0, 0] = (⟨10, [⟨⟨#[97]⟩, [1, 2, 3], 3, true⟩], -1, 4⟩, 8) := by kernel_rfl
theorem kn8 : ctO ⟨10, [⟨⟨#[97]⟩, [1, 2, 3], 3, true⟩], -1, 4⟩ ⟨#[97]⟩ 9 = (⟨10, [⟨⟨#[97]⟩, [1, 2, 3], 3, true⟩], -1, 4⟩, 2) := by kernel_rfl
theorem kn9 : ctO ⟨10, [⟨⟨#[97]⟩, [1, 2, 3], 3, true⟩], -1, 4⟩ ⟨#[97]⟩ 1 = (⟨10, [⟨⟨#[97]⟩, [1], 1, true⟩], -1, 5⟩, 0) := by kernel_rfl
theorem kn10 : rnO ⟨10, [⟨⟨#[97]⟩, [1], 1, true⟩], -1, 5⟩ ⟨#[97]⟩ ⟨#[99]⟩ = (⟨10, [⟨⟨#[99]⟩, [1], 1, true⟩], -1, 6⟩, 0) := by kernel_rfl
theorem kn11 : rdZ ⟨10, [⟨⟨#[99]⟩, [1], 1, true⟩], -1, 6⟩ ⟨#[99]⟩ = 0 := by kernel_rfl
theorem kn12 : rdB ⟨10, [⟨⟨#[99]⟩, [1], 1, true⟩], -1, 6⟩ ⟨#[99]⟩ = [1] := by kernel_rfl
theorem kn13 : (stD ⟨10, [⟨⟨#[99]⟩, [1], 1, true⟩], -1, 6⟩ 1, stZ 1) = (⟨10, [⟨⟨#[99]⟩, [1], 1, true⟩], 1, 6⟩, 0) := by kernel_rfl
theorem kn14 : apO ⟨10, [⟨⟨#[99]⟩, [1], 1, true⟩], 1, 6⟩ ⟨#[99]⟩ [5] = (⟨10, [⟨⟨#[99]⟩, [1, 5], 1, true⟩], 0, 7⟩, 0) := by kernel_rfl
theorem kn15 : (((⟨10, [⟨⟨#[99]⟩, [1, 5], 1, true⟩], 0, 7⟩ : Dk).lf == 0) = true) := by kernel_rfl
theorem kn16 : syO ⟨10, [⟨⟨#[99]⟩, [1, 5], 1, true⟩], 0, 7⟩ ⟨#[99]⟩ = (⟨10, [⟨⟨#[99]⟩, [1, 5], 1, true⟩], 0, 7⟩, 13) := by kernel_rfl
theorem kn17 : rdZ ⟨10, [⟨⟨#[99]⟩, [1, 5], 1, true⟩], 0, 7⟩ ⟨#[99]⟩ = 0 := by kernel_rfl
theorem kn18 : rdB ⟨10, [⟨⟨#[99]⟩, [1, 5], 1, true⟩], 0, 7⟩ ⟨#[99]⟩ = [1, 5] := by kernel_rfl
theorem kn19 : crD ⟨10, [⟨⟨#[99]⟩, [1, 5], 1, true⟩], 0, 7⟩ [9] = ⟨10, [⟨⟨#[99]⟩, [1, 5], 2, true⟩], -1, 7⟩ := by kernel_rfl
theorem kn20 : rdZ ⟨10, [⟨⟨#[99]⟩, [1, 5], 2, true⟩], -1, 7⟩ ⟨#[99]⟩ = 0 := by kernel_rfl
theorem kn21 : rdB ⟨10, [⟨⟨#[99]⟩, [1, 5], 2, true⟩], -1, 7⟩ ⟨#[99]⟩ = [1, 5] := by kernel_rfl
theorem kn22 : apO ⟨10, [⟨⟨#[99]⟩, [1, 5], 2, true⟩], -1, 7⟩ ⟨#[67]⟩ [1] = (⟨10, [⟨⟨#[99]⟩, [1, 5], 2, true⟩], -1, 7⟩, 2) := by kernel_rfl
theorem kn23 : syO ⟨10, [⟨⟨#[99]⟩, [1, 5], 2, true⟩], -1, 7⟩ ⟨#[120]⟩ = (⟨10, [⟨⟨#[99]⟩, [1, 5], 2, true⟩], -1, 7⟩, 6) := by kernel_rfl
theorem kn24 : (stD ⟨10, [⟨⟨#[99]⟩, [1, 5], 2, true⟩], -1, 7⟩ (-1), stZ (-1)) = (⟨10, [⟨⟨#[99]⟩, [1, 5], 2, true⟩], -1, 7⟩, 2) := by kernel_rfl
set_option maxRecDepth 100000 in
set_option maxHeartbeats 12800000 in
theorem known_of {U : Prop} {CD : CDT} (Fa : Face U CD) (w : World) : Calls Tryd.prog 7 #[] w fun r w' => r = .returned (.bool true) ∧ Below w.heap.size w w' := by
  have H1 := hidU (Fa.newOk (n := 10) (w := w) w.heap.size (by decide) (by decide) (Nat.le_refl _))
  go_enter Tryd.func7, Tryd.ntmps7
  go_wp2_with (go_at_call 8; refine H1.out.mono ?_; rintro _ w1 ⟨g, W1, F1, rfl, hc1, hb1, _⟩; refine Hid.out ?_)
  refine hidU ?_
  have HSw1 : Hid (Sta CD w.heap.size w1 g 0 ⟨10, [], -1, 0⟩ (fun _ => False)) := ⟨W1, F1, hc1, ⟨by decide, Nat.zero_le _, Nat.zero_le _, Int.le_refl _, by show (-1 : Int) ≤ _; omega, Nat.le_refl _, fun f h => (by cases h), List.Pairwise.nil⟩, fun _ h => h.elim⟩
  have HBw1 := hidU hb1
  clear hc1 hb1 H1
  have Hw2 := hidU (HSw1.out.app Fa (W := fun _ => False) (cs := [.int .u8 1, .int .u8 2]) HBw1.out.size (by omega) (show (ByteArray.mk #[97]).size ≤ 9223372036854775807 by decide) (by kernel_rfl) (by decide) kn0)
  go_wp2_with (go_at_call 10; refine Hw2.out.mono ?_; rintro _ w2 ⟨rfl, hsw2, hbw2, hkw2⟩; refine Hid.out ?_)
  refine hidU ?_
  have HSw2 := hidU hsw2
  have HBw2 := hidU (HBw1.out.trans hbw2)
  clear hsw2 hbw2 hkw2 Hw2 HSw1 HBw1
  have Hw3 := hidU (HSw2.out.sync Fa HBw2.out.size (by omega) (show (ByteArray.mk #[97]).size ≤ 9223372036854775807 by decide) kn1)
  go_wp2_with (go_at_call 15; refine Hw3.out.mono ?_; rintro _ w3 ⟨rfl, hsw3, hbw3, hkw3⟩; refine Hid.out ?_)
  refine hidU ?_
  have HSw3 := hidU hsw3
  have HBw3 := hidU (HBw2.out.trans hbw3)
  clear hsw3 hbw3 hkw3 Hw3 HSw2 HBw2
  have Hw4 := hidU (HSw3.out.app Fa (W := fun _ => False) (cs := [.int .u8 3, .int .u8 4]) HBw3.out.size (by omega) (show (ByteArray.mk #[97]).size ≤ 9223372036854775807 by decide) (by kernel_rfl) (by decide) kn2)
  go_wp2_with (go_at_call 10; refine Hw4.out.mono ?_; rintro _ w4 ⟨rfl, hsw4, hbw4, hkw4⟩; refine Hid.out ?_)
  refine hidU ?_
  have HSw4 := hidU hsw4
  have HBw4 := hidU (HBw3.out.trans hbw4)
  clear hsw4 hbw4 hkw4 Hw4 HSw3 HBw3
  have Hw5 := hidU (HSw4.out.crash Fa (cs := [.int .i64 1]) HBw4.out.size (by omega) (by kernel_rfl) (by decide) kn3)
  go_wp2_with (go_at_call 19; refine Hw5.out.mono ?_; rintro _ w5 ⟨rfl, hsw5, hbw5, hkw5⟩; refine Hid.out ?_)
  refine hidU ?_
  have HSw5 := hidU hsw5
  have HBw5 := hidU (HBw4.out.trans hbw5)
  clear hsw5 hbw5 hkw5 Hw5 HSw4 HBw4
  have Hw6 := hidU (HSw5.out.app Fa (W := fun _ => False) (cs := [.int .u8 9]) HBw5.out.size (by omega) (show (ByteArray.mk #[98]).size ≤ 9223372036854775807 by decide) (by kernel_rfl) (by decide) kn4)
  go_wp2_with (go_at_call 10; refine Hw6.out.mono ?_; rintro _ w6 ⟨rfl, hsw6, hbw6, hkw6⟩; refine Hid.out ?_)
  refine hidU ?_
  have HSw6 := hidU hsw6
  have HBw6 := hidU (HBw5.out.trans hbw6)
  clear hsw6 hbw6 hkw6 Hw6 HSw5 HBw5
  have Hw7 := hidU (HSw6.out.crashNil Fa HBw6.out.size (by omega) kn5)
  go_wp2_with (go_at_call 19; refine Hw7.out.mono ?_; rintro _ w7 ⟨rfl, hsw7, hbw7, hkw7⟩; refine Hid.out ?_)
  refine hidU ?_
  have HSw7 := hidU hsw7
  have HBw7 := hidU (HBw6.out.trans hbw7)
  clear hsw7 hbw7 hkw7 Hw7 HSw6 HBw6
  have Hw8 := hidU (HSw7.out.names Fa (by omega) kn6)
  go_wp2_with (go_at_call 20; refine Hw8.out.mono ?_; rintro _ w8 ⟨na, nc, rfl, hrN, hcN, hbw8⟩; refine Hid.out ?_)
  refine hidU ?_
  have HSw8 := hidU (HSw7.out.below Fa hbw8)
  have HBw8 := hidU (HBw7.out.trans (hbw8.mono HBw7.out.size))
  have HRN := hidU hrN
  have HCN := hidU hcN
  clear hbw8 Hw8 HSw7 HBw7 hrN hcN
  obtain ⟨w9, hnw9⟩ : ∃ x, x = w8.alloc (.cells #[.string ⟨#[97]⟩] 9) := ⟨_, rfl⟩
  have hbA : Below w8.heap.size w8 w9 := by rw [hnw9]; exact (Below.refl _ _).alloc (Nat.le_refl _) _
  have hAA : At 9 w9 w8.heap.size [.string ⟨#[97]⟩] := by rw [hnw9]; exact _root_.Go.heap_alloc_new w8 _
  have HSm := hidU (sameTexts_any [⟨#[97]⟩] [⟨#[97]⟩] na (some ⟨w8.heap.size, 0, none⟩) nc 1 w9 (HRN.out.below hbA) (.inr ⟨_, 0, rfl, hAA.rng⟩) HCN.out (Nat.le_refl _) (by decide) (by decide))
  have HSw9 := hidU (HSw8.out.below Fa hbA)
  have HBw9 := hidU (HBw8.out.trans (hbA.mono HBw8.out.size))
  rw [hnw9] at HSm HSw9 HBw9
  clear hbA hAA HRN HCN HSw8 HBw8
  go_wp2_with (go_at_call 30; refine HSm.out.mono ?_; rintro _ w10 ⟨rfl, hbw10, hhp⟩; clear hhp; refine Hid.out ?_)
  refine hidU ?_
  have HSw10 := hidU (HSw9.out.below Fa hbw10)
  have HBw10 := hidU (HBw9.out.trans (hbw10.mono HBw9.out.size))
  clear hbw10 HSm HSw9 HBw9 hnw9
  have hsm : sameS [⟨#[97]⟩] [⟨#[97]⟩] = true := by simp [sameS]
  obtain ⟨i0, hi0, hz0, hz1, hz2⟩ := info_parts Tryd.info5
  go_wp2_with (at_make; refine wpList_make_full _ rfl (.const (.int .i64 8)) (.const (.int .i64 8)) 29 rfl w10.heap.size 5 i0 (.int .u8 0) 1 Tryd.underlying29 hi0 hz0 hz1 .i64 .i64 _ _ 8 rfl rfl rfl rfl (by rw [hz2]; omega) (by unfold maxLen; omega) (Nat.le_refl _) ?_; intro w11 hown hgrow; refine Hid.out ?_)
  refine hidU ?_
  have hbM : Below w10.heap.size w10 w11 := (Below.refl _ _).grown hgrow (Nat.le_refl _) (by intro k hk; cases hk)
  have hownB : OwnX eB w10.heap.size w11 (.slice (some ⟨w10.heap.size, 0, none⟩) 8 8) [0, 0, 0, 0, 0, 0, 0, 0] := by
    have e9 : (madeCells (Value.int .u8 0).cells (8 * 1)).toList = eB.flat [0, 0, 0, 0, 0, 0, 0, 0] := by kernel_rfl
    rw [e9] at hown
    exact hown
  obtain ⟨ra, rc, re, _, _, _, _, rr⟩ := hownB.row
  cases re
  have Hw12 := hidU (HSw10.out.appRow Fa (b := [0, 0, 0, 0, 0, 0, 0, 0]) hbM HBw10.out.size (by omega) (show (ByteArray.mk #[97]).size ≤ 9223372036854775807 by decide) (rowB.1 rr) (Nat.le_refl _) (hownB.block w10.heap.size rfl).2.1 (by decide) kn7)
  rw [show ([0, 0, 0, 0, 0, 0, 0, 0] : List UInt8).length = 8 from rfl] at Hw12
  clear hown hgrow hownB rr hbM i0 hi0 hz0 hz1 hz2
  go_wp2_with (go_at_call 10; refine Hw12.out.mono ?_; rintro _ w12 ⟨rfl, hsw12, hbw12, hkw12⟩; refine Hid.out ?_)
  refine hidU ?_
  have HSw12 := hidU hsw12
  have HBw12 := hidU (HBw10.out.trans hbw12)
  clear hsw12 hbw12 hkw12 Hw12 HSw10 HBw10
  have Hw13 := hidU (HSw12.out.cut Fa HBw12.out.size (by omega) (show (ByteArray.mk #[97]).size ≤ 9223372036854775807 by decide) kn8)
  go_wp2_with (go_at_call 14; refine Hw13.out.mono ?_; rintro _ w13 ⟨rfl, hsw13, hbw13, hkw13⟩; refine Hid.out ?_)
  refine hidU ?_
  have HSw13 := hidU hsw13
  have HBw13 := hidU (HBw12.out.trans hbw13)
  clear hsw13 hbw13 hkw13 Hw13 HSw12 HBw12
  have Hw14 := hidU (HSw13.out.cut Fa HBw13.out.size (by omega) (show (ByteArray.mk #[97]).size ≤ 9223372036854775807 by decide) kn9)
  go_wp2_with (go_at_call 14; refine Hw14.out.mono ?_; rintro _ w14 ⟨rfl, hsw14, hbw14, hkw14⟩; refine Hid.out ?_)
  refine hidU ?_
  have HSw14 := hidU hsw14
  have HBw14 := hidU (HBw13.out.trans hbw14)
  clear hsw14 hbw14 hkw14 Hw14 HSw13 HBw13
  have Hw15 := hidU (HSw14.out.rename Fa HBw14.out.size (by omega) (show (ByteArray.mk #[97]).size ≤ 9223372036854775807 by decide) (show (ByteArray.mk #[99]).size ≤ 9223372036854775807 by decide) kn10)
  go_wp2_with (go_at_call 16; refine Hw15.out.mono ?_; rintro _ w15 ⟨rfl, hsw15, hbw15, hkw15⟩; refine Hid.out ?_)
  refine hidU ?_
  have HSw15 := hidU hsw15
  have HBw15 := hidU (HBw14.out.trans hbw15)
  clear hsw15 hbw15 hkw15 Hw15 HSw14 HBw14
  have Hw16 := hidU (HSw15.out.read Fa (by omega) (show (ByteArray.mk #[99]).size ≤ 9223372036854775807 by decide) kn11 kn12)
  go_wp2_with (go_at_call 13; refine Hw16.out.mono ?_; rintro _ w16 ⟨a0, c0, rfl, hrw16, _, hbw16, hsw16⟩; refine Hid.out ?_)
  refine hidU ?_
  have HBw16 := hidU (HBw15.out.trans (hbw16.mono HBw15.out.size))
  have R0w16 := hidU hrw16
  have HSw16 := hidU hsw16
  clear hbw16 hsw16 hrw16 Hw16 HSw15 HBw15
  have Hw17 := hidU (HSw16.out.stop Fa HBw16.out.size (by decide) kn13)
  go_wp2_with (go_at_call 18; refine Hw17.out.mono ?_; rintro _ w17 ⟨rfl, hsw17, hbw17, hkw17⟩; refine Hid.out ?_)
  refine hidU ?_
  have HSw17 := hidU hsw17
  have HBw17 := hidU (HBw16.out.trans hbw17)
  have R0w17 := hidU (R0w16.out.std (hkw17) (fun k q => Or.inr q))
  clear hsw17 hbw17 hkw17 Hw17 HSw16 HBw16 R0w16
  have Hw18 := hidU (HSw17.out.app Fa (W := fun _ => False) (cs := [.int .u8 5]) HBw17.out.size (by omega) (show (ByteArray.mk #[99]).size ≤ 9223372036854775807 by decide) (by kernel_rfl) (by decide) kn14)
  go_wp2_with (go_at_call 10; refine Hw18.out.mono ?_; rintro _ w18 ⟨rfl, hsw18, hbw18, hkw18⟩; refine Hid.out ?_)
  refine hidU ?_
  have HSw18 := hidU hsw18
  have HBw18 := hidU (HBw17.out.trans hbw18)
  have R0w18 := hidU (R0w17.out.std (hkw18) (fun k q => Or.inr q))
  clear hsw18 hbw18 hkw18 Hw18 HSw17 HBw17 R0w17
  have Hw19 := hidU (HSw18.out.stopped Fa kn15)
  go_wp2_with (go_at_call 24; refine Hw19.out.mono ?_; rintro _ w19 ⟨rfl, hbw19⟩; refine Hid.out ?_)
  refine hidU ?_
  have HSw19 := hidU (HSw18.out.below Fa hbw19)
  have HBw19 := hidU (HBw18.out.trans (hbw19.mono HBw18.out.size))
  have R0w19 := hidU (R0w18.out.std (HSw18.out.std hbw19) (fun k q => Or.inr q))
  clear hbw19 Hw19 HSw18 HBw18 R0w18
  have Hw20 := hidU (HSw19.out.sync Fa HBw19.out.size (by omega) (show (ByteArray.mk #[99]).size ≤ 9223372036854775807 by decide) kn16)
  go_wp2_with (go_at_call 15; refine Hw20.out.mono ?_; rintro _ w20 ⟨rfl, hsw20, hbw20, hkw20⟩; refine Hid.out ?_)
  refine hidU ?_
  have HSw20 := hidU hsw20
  have HBw20 := hidU (HBw19.out.trans hbw20)
  have R0w20 := hidU (R0w19.out.std (hkw20) (fun k q => Or.inr q))
  clear hsw20 hbw20 hkw20 Hw20 HSw19 HBw19 R0w19
  have Hw21 := hidU (HSw20.out.read Fa (by omega) (show (ByteArray.mk #[99]).size ≤ 9223372036854775807 by decide) kn17 kn18)
  go_wp2_with (go_at_call 13; refine Hw21.out.mono ?_; rintro _ w21 ⟨a1, c1, rfl, hrw21, _, hbw21, hsw21⟩; refine Hid.out ?_)
  refine hidU ?_
  have HBw21 := hidU (HBw20.out.trans (hbw21.mono HBw20.out.size))
  have R0w21 := hidU (R0w20.out.std (HSw20.out.std hbw21) (fun k q => Or.inr q))
  have R1w21 := hidU hrw21
  have HSw21 := hidU hsw21
  clear hbw21 hsw21 hrw21 Hw21 HSw20 HBw20 R0w20
  have Hw22 := hidU (HSw21.out.crash Fa (cs := [.int .i64 9]) HBw21.out.size (by omega) (by kernel_rfl) (by decide) kn19)
  go_wp2_with (go_at_call 19; refine Hw22.out.mono ?_; rintro _ w22 ⟨rfl, hsw22, hbw22, hkw22⟩; refine Hid.out ?_)
  refine hidU ?_
  have HSw22 := hidU hsw22
  have HBw22 := hidU (HBw21.out.trans hbw22)
  have R0w22 := hidU (R0w21.out.std (hkw22) (fun k q => Or.inl (Or.inr q)))
  have R1w22 := hidU (R1w21.out.std (hkw22) (fun k q => Or.inr q))
  clear hsw22 hbw22 hkw22 Hw22 HSw21 HBw21 R0w21 R1w21
  have Hw23 := hidU (HSw22.out.read Fa (by omega) (show (ByteArray.mk #[99]).size ≤ 9223372036854775807 by decide) kn20 kn21)
  go_wp2_with (go_at_call 13; refine Hw23.out.mono ?_; rintro _ w23 ⟨a2, c2, rfl, hrw23, _, hbw23, hsw23⟩; refine Hid.out ?_)
  refine hidU ?_
  have HBw23 := hidU (HBw22.out.trans (hbw23.mono HBw22.out.size))
  have R0w23 := hidU (R0w22.out.std (HSw22.out.std hbw23) (fun k q => Or.inl (Or.inr q)))
  have R1w23 := hidU (R1w22.out.std (HSw22.out.std hbw23) (fun k q => Or.inr q))
  have R2w23 := hidU hrw23
  have HSw23 := hidU hsw23
  clear hbw23 hsw23 hrw23 Hw23 HSw22 HBw22 R0w22 R1w22
  have Hw24 := hidU (Fa.newBad (n := 0) (w := w23) (.inl (by decide)))
  go_wp2_with (go_at_call 8; refine Hw24.out.mono ?_; rintro _ w24 ⟨rfl, hbw24⟩; refine Hid.out ?_)
  refine hidU ?_
  have HSw24 := hidU (HSw23.out.below Fa hbw24)
  have HBw24 := hidU (HBw23.out.trans (hbw24.mono HBw23.out.size))
  have R0w24 := hidU (R0w23.out.std (HSw23.out.std hbw24) (fun k q => Or.inl (Or.inl (Or.inr q))))
  have R1w24 := hidU (R1w23.out.std (HSw23.out.std hbw24) (fun k q => Or.inl (Or.inr q)))
  have R2w24 := hidU (R2w23.out.std (HSw23.out.std hbw24) (fun k q => Or.inr q))
  clear hbw24 Hw24 HSw23 HBw23 R0w23 R1w23 R2w23
  have Hw25 := hidU (HSw24.out.app Fa (W := fun _ => False) (cs := [.int .u8 1]) HBw24.out.size (by omega) (show (ByteArray.mk #[67]).size ≤ 9223372036854775807 by decide) (by kernel_rfl) (by decide) kn22)
  go_wp2_with (go_at_call 10; refine Hw25.out.mono ?_; rintro _ w25 ⟨rfl, hsw25, hbw25, hkw25⟩; refine Hid.out ?_)
  refine hidU ?_
  have HSw25 := hidU hsw25
  have HBw25 := hidU (HBw24.out.trans hbw25)
  have R0w25 := hidU (R0w24.out.std (hkw25) (fun k q => Or.inl (Or.inl (Or.inr q))))
  have R1w25 := hidU (R1w24.out.std (hkw25) (fun k q => Or.inl (Or.inr q)))
  have R2w25 := hidU (R2w24.out.std (hkw25) (fun k q => Or.inr q))
  clear hsw25 hbw25 hkw25 Hw25 HSw24 HBw24 R0w24 R1w24 R2w24
  have Hw26 := hidU (HSw25.out.sync Fa HBw25.out.size (by omega) (show (ByteArray.mk #[120]).size ≤ 9223372036854775807 by decide) kn23)
  go_wp2_with (go_at_call 15; refine Hw26.out.mono ?_; rintro _ w26 ⟨rfl, hsw26, hbw26, hkw26⟩; refine Hid.out ?_)
  refine hidU ?_
  have HSw26 := hidU hsw26
  have HBw26 := hidU (HBw25.out.trans hbw26)
  have R0w26 := hidU (R0w25.out.std (hkw26) (fun k q => Or.inl (Or.inl (Or.inr q))))
  have R1w26 := hidU (R1w25.out.std (hkw26) (fun k q => Or.inl (Or.inr q)))
  have R2w26 := hidU (R2w25.out.std (hkw26) (fun k q => Or.inr q))
  clear hsw26 hbw26 hkw26 Hw26 HSw25 HBw25 R0w25 R1w25 R2w25
  have Hw27 := hidU (HSw26.out.stop Fa HBw26.out.size (by decide) kn24)
  go_wp2_with (go_at_call 18; refine Hw27.out.mono ?_; rintro _ w27 ⟨rfl, hsw27, hbw27, hkw27⟩; refine Hid.out ?_)
  refine hidU ?_
  have HSw27 := hidU hsw27
  have HBw27 := hidU (HBw26.out.trans hbw27)
  have R0w27 := hidU (R0w26.out.std (hkw27) (fun k q => Or.inl (Or.inl (Or.inr q))))
  have R1w27 := hidU (R1w26.out.std (hkw27) (fun k q => Or.inl (Or.inr q)))
  have R2w27 := hidU (R2w26.out.std (hkw27) (fun k q => Or.inr q))
  clear hsw27 hbw27 hkw27 Hw27 HSw26 HBw26 R0w26 R1w26 R2w26
  have Hw28 := hidU (awake_of Fa w27)
  go_wp2_with (go_at_call 27; refine Hw28.out.mono ?_; rintro _ w28 ⟨rfl, hbw28⟩; refine Hid.out ?_)
  refine hidU ?_
  have HSw28 := hidU (HSw27.out.below Fa hbw28)
  have HBw28 := hidU (HBw27.out.trans (hbw28.mono HBw27.out.size))
  have R0w28 := hidU (R0w27.out.std (HSw27.out.std hbw28) (fun k q => Or.inl (Or.inl (Or.inr q))))
  have R1w28 := hidU (R1w27.out.std (HSw27.out.std hbw28) (fun k q => Or.inl (Or.inr q)))
  have R2w28 := hidU (R2w27.out.std (HSw27.out.std hbw28) (fun k q => Or.inr q))
  clear hbw28 Hw28 HSw27 HBw27 R0w27 R1w27 R2w27
  have hbA0 : Below w28.heap.size w28 (w28.alloc (.cells #[.int .u8 1] 5)) := (Below.refl _ _).alloc (Nat.le_refl _) _
  have hAA0 : At 5 (w28.alloc (.cells #[.int .u8 1] 5)) w28.heap.size (([1] : List UInt8).map B8) := _root_.Go.heap_alloc_new w28 _
  have HSm0 : Hid (Calls Tryd.prog 31 #[.slice a0 1 c0, .slice (some ⟨w28.heap.size, 0, none⟩) 1 1] (w28.alloc (.cells #[.int .u8 1] 5)) fun e w' => e = .returned (.bool true) ∧ Below w28.heap.size w28 w') := by
    refine (same_any a0 (some ⟨w28.heap.size, 0, none⟩) c0 1 [1] [1] _ (R0w28.out.below hbA0) (Blk.row_all (blk_at.2 hAA0))).mono ?_
    rintro e w' ⟨rfl, rfl⟩
    exact ⟨rfl, hbA0⟩
  clear hbA0 hAA0 HSw28
  go_wp2_with (go_at_call 31; refine HSm0.out.mono ?_; rintro _ w29 ⟨rfl, hbw29⟩; refine Hid.out ?_)
  refine hidU ?_
  have HBw29 := hidU (HBw28.out.trans (hbw29.mono HBw28.out.size))
  have R1w29 := hidU (R1w28.out.below hbw29)
  have R2w29 := hidU (R2w28.out.below hbw29)
  clear hbw29 HSm0 HBw28 R0w28 R1w28 R2w28
  have hbA1 : Below w29.heap.size w29 (w29.alloc (.cells #[.int .u8 1, .int .u8 5] 5)) := (Below.refl _ _).alloc (Nat.le_refl _) _
  have hAA1 : At 5 (w29.alloc (.cells #[.int .u8 1, .int .u8 5] 5)) w29.heap.size (([1, 5] : List UInt8).map B8) := _root_.Go.heap_alloc_new w29 _
  have HSm1 : Hid (Calls Tryd.prog 31 #[.slice a1 2 c1, .slice (some ⟨w29.heap.size, 0, none⟩) 2 2] (w29.alloc (.cells #[.int .u8 1, .int .u8 5] 5)) fun e w' => e = .returned (.bool true) ∧ Below w29.heap.size w29 w') := by
    refine (same_any a1 (some ⟨w29.heap.size, 0, none⟩) c1 2 [1, 5] [1, 5] _ (R1w29.out.below hbA1) (Blk.row_all (blk_at.2 hAA1))).mono ?_
    rintro e w' ⟨rfl, rfl⟩
    exact ⟨rfl, hbA1⟩
  clear hbA1 hAA1
  go_wp2_with (go_at_call 31; refine HSm1.out.mono ?_; rintro _ w30 ⟨rfl, hbw30⟩; refine Hid.out ?_)
  refine hidU ?_
  have HBw30 := hidU (HBw29.out.trans (hbw30.mono HBw29.out.size))
  have R2w30 := hidU (R2w29.out.below hbw30)
  clear hbw30 HSm1 HBw29 R1w29 R2w29
  have hbA2 : Below w30.heap.size w30 (w30.alloc (.cells #[.int .u8 1, .int .u8 5] 5)) := (Below.refl _ _).alloc (Nat.le_refl _) _
  have hAA2 : At 5 (w30.alloc (.cells #[.int .u8 1, .int .u8 5] 5)) w30.heap.size (([1, 5] : List UInt8).map B8) := _root_.Go.heap_alloc_new w30 _
  have HSm2 : Hid (Calls Tryd.prog 31 #[.slice a2 2 c2, .slice (some ⟨w30.heap.size, 0, none⟩) 2 2] (w30.alloc (.cells #[.int .u8 1, .int .u8 5] 5)) fun e w' => e = .returned (.bool true) ∧ Below w30.heap.size w30 w') := by
    refine (same_any a2 (some ⟨w30.heap.size, 0, none⟩) c2 2 [1, 5] [1, 5] _ (R2w30.out.below hbA2) (Blk.row_all (blk_at.2 hAA2))).mono ?_
    rintro e w' ⟨rfl, rfl⟩
    exact ⟨rfl, hbA2⟩
  clear hbA2 hAA2
  go_wp2_with (go_at_call 31; refine HSm2.out.mono ?_; rintro _ w31 ⟨rfl, hbw31⟩; refine Hid.out ?_)
  refine hidU ?_
  have HBw31 := hidU (HBw30.out.trans (hbw31.mono HBw30.out.size))
  clear hbw31 HSm2 HBw30 R2w30
  go_wp2
  go_ret
  exact ⟨rfl, HBw31.out⟩
end Go.Proofs.YtcmkjjlchljffaaDoor

/- Maps whose keys are texts, of elements of any kind. -/
namespace Go.Proofs.YtcmkjjlchljffaaDoor
open Go.RowKit Go.Maps Go.MapKept Go.WideMaps
set_option linter.unusedVariables false

/-- A map's type: the type of its elements, the value of one, the zero value. -/
structure Mt (α : Type) where
  T : TypeId
  E : TypeId
  val : α → Value
  z : Value
  und : Tryd.prog.underlying T = some (.map 9 E)
  hz : ∀ w, (zeroValue E).run Tryd.prog w = .ok z w
theorem u9 : Tryd.prog.underlying 9 = some .string := by kernel_rfl
theorem key9 : Keyed Tryd.prog 9 := string_keyed u9
def keyB {α : Type} (s : ByteArray) (p : ByteArray × α) : Bool := p.1.toList == s.toList
theorem toL_inj {a b : ByteArray} (h : a.toList = b.toList) : a = b := by
  rw [ByteArray.toList_eq, ByteArray.toList_eq] at h
  apply ByteArray.ext
  exact Array.toList_inj.1 h
theorem keyB_iff {α : Type} {s : ByteArray} {p : ByteArray × α} : keyB s p = true ↔ p.1 = s := ⟨fun h => toL_inj (beq_iff_eq.1 h), fun h => by rw [keyB, h]; simp⟩
theorem keyB_not {α : Type} {s : ByteArray} {p : ByteArray × α} : keyB s p = false ↔ p.1 ≠ s := by rw [Bool.eq_false_iff, ne_eq, keyB_iff]
theorem nodup_of_map {α β : Type} (f : α → β) : ∀ {l : List α}, (l.map f).Nodup → l.Nodup
  | [], _ => List.nodup_nil
  | a :: l, h => by
    rw [List.map_cons, List.nodup_cons] at h
    exact List.nodup_cons.2 ⟨fun hm => h.1 (List.mem_map.2 ⟨a, hm, rfl⟩), nodup_of_map f h.2⟩
/-- A map in memory. -/
def MapS {α : Type} (t : Mt α) (w : World) (b : Nat) (m : List (ByteArray × α)) : Prop :=
  ∃ arr clock, w.heap[b]? = some (.map arr clock) ∧ Stamped arr clock ∧ arr.toList.map (fun e => (e.key, e.val)) = m.map (fun p => (Value.string p.1, t.val p.2)) ∧ ∀ p ∈ m, p.1.size ≤ maxLen
def lookM {α : Type} (m : List (ByteArray × α)) (s : ByteArray) : Option α := (m.find? (keyB s)).map (·.2)
def updM {α : Type} (m : List (ByteArray × α)) (s : ByteArray) (x : α) : List (ByteArray × α) := if (lookM m s).isSome then m.map (fun p => if keyB s p then (s, x) else p) else m ++ [(s, x)]
def delM {α : Type} (m : List (ByteArray × α)) (s : ByteArray) : List (ByteArray × α) := m.filter fun p => !keyB s p
section
variable {α : Type} {t : Mt α} {w w' : World} {b : Nat} {m : List (ByteArray × α)} {s : ByteArray} {x : α}
theorem MapS.same (h : MapS t w b m) (e : w'.heap[b]? = w.heap[b]?) : MapS t w' b m := by
  obtain ⟨arr, clock, h1, h2⟩ := h
  exact ⟨arr, clock, e.trans h1, h2⟩
theorem MapS.lt (h : MapS t w b m) : b < w.heap.size := by
  obtain ⟨arr, clock, h1, h2⟩ := h
  exact heapLt h1
theorem MapS.below (h : MapS t w b m) (hb : Below w.heap.size w w') : MapS t w' b m := h.same (hb.block b h.lt)
theorem MapS.made (t : Mt α) (w : World) : MapS t (w.alloc (.map #[] 0)) w.heap.size [] := ⟨#[], 0, _root_.Go.heap_alloc_new w _, ⟨fun _ h => (by cases h), List.nodup_nil, List.nodup_nil⟩, rfl, fun _ h => by cases h⟩
theorem MapS.nodup (h : MapS t w b m) : (m.map (·.1)).Nodup := by
  obtain ⟨arr, clock, h1, ⟨_, _, h2⟩, h3, h4⟩ := h
  have e : arr.toList.map (·.key) = (m.map (·.1)).map Value.string := by
    have := congrArg (List.map Prod.fst) h3
    rw [List.map_map, List.map_map] at this
    rw [List.map_map]
    exact this
  rw [e] at h2
  exact nodup_of_map _ h2
theorem find_of_mem (hn : (m.map (·.1)).Nodup) (h : (s, x) ∈ m) : m.find? (keyB s) = some (s, x) := by
  induction m with
  | nil => cases h
  | cons p m ih =>
    rw [List.map_cons, List.nodup_cons] at hn
    by_cases hp : keyB s p = true
    · rw [List.find?_cons_of_pos hp]
      rcases List.mem_cons.1 h with e | e
      · rw [e]
      · exfalso
        apply hn.1
        rw [keyB_iff.1 hp]
        exact List.mem_map.2 ⟨_, e, rfl⟩
    · rw [List.find?_cons_of_neg hp]
      rcases List.mem_cons.1 h with e | e
      · exact absurd (keyB_iff.2 (by rw [← e])) hp
      · exact ih hn.2 e
/-- What is found. -/
theorem MapS.find (h : MapS t w b m) (hs : s.size ≤ maxLen) : ∃ arr clock, w.heap[b]? = some (.map arr clock) ∧ Stamped arr clock ∧ arr.toList.map (fun e => (e.key, e.val)) = m.map (fun p => (Value.string p.1, t.val p.2)) ∧
    (((Instr.findKey 9 (.string s) arr.toList).run Tryd.prog w = .ok none w ∧ (∀ e ∈ arr.toList, e.key ≠ .string s) ∧ lookM m s = none ∧ ∀ p ∈ m, keyB s p = false) ∨
     ∃ j x, (Instr.findKey 9 (.string s) arr.toList).run Tryd.prog w = .ok (some (j, t.val x)) w ∧ lookM m s = some x ∧ m[j]? = some (s, x) ∧ (arr[j]?).map (·.key) = some (.string s)) := by
  have hnd := h.nodup
  obtain ⟨arr, clock, h1, h2, h3, h4⟩ := h
  refine ⟨arr, clock, h1, h2, h3, ?_⟩
  have hkey : ∀ u : ByteArray, u.size ≤ maxLen → ∃ l, keyOf Tryd.prog 9 (.string u) = some l := fun u hu => ⟨_, keyOf_string_mk u9 hu⟩
  obtain ⟨lx, hlx⟩ := hkey s hs
  have hall : ∀ e ∈ arr.toList, ∃ l, keyOf Tryd.prog 9 e.key = some l := by
    intro e he
    have : (e.key, e.val) ∈ arr.toList.map (fun e => (e.key, e.val)) := List.mem_map.2 ⟨e, he, rfl⟩
    rw [h3] at this
    obtain ⟨p, hp, hq⟩ := List.mem_map.1 this
    injection hq with hq _
    rw [← hq]
    exact hkey _ (h4 p hp)
  rcases key9.find w hlx arr.toList hall with ⟨f1, f2⟩ | ⟨j, e, f1, f2, f3⟩
  · refine .inl ⟨f1, f2, ?_, ?_⟩
    · have : m.find? (keyB s) = none := by
        rw [List.find?_eq_none]
        intro p hp hk
        have : (Value.string p.1, t.val p.2) ∈ arr.toList.map (fun e => (e.key, e.val)) := by rw [h3]; exact List.mem_map.2 ⟨p, hp, rfl⟩
        obtain ⟨e, he, hq⟩ := List.mem_map.1 this
        injection hq with hq _
        exact f2 e he (by rw [hq, keyB_iff.1 hk])
      rw [lookM, this]
      rfl
    · intro p hp
      rw [keyB_not]
      intro hk
      have : (Value.string p.1, t.val p.2) ∈ arr.toList.map (fun e => (e.key, e.val)) := by rw [h3]; exact List.mem_map.2 ⟨p, hp, rfl⟩
      obtain ⟨e, he, hq⟩ := List.mem_map.1 this
      injection hq with hq _
      exact f2 e he (by rw [hq, hk])
  · have hj := congrArg (fun l => l[j]?) h3
    simp only [List.getElem?_map, f2, Option.map_some] at hj
    cases hm : m[j]? with
    | none => rw [hm] at hj; cases hj
    | some p =>
      rw [hm] at hj
      simp only [Option.map_some, Option.some.injEq, Prod.mk.injEq] at hj
      obtain ⟨g1, g2⟩ := hj
      rw [f3] at g1
      injection g1 with g1
      obtain ⟨p1, p2⟩ := p
      simp only at g1 g2
      subst g1
      refine .inr ⟨j, p2, by rw [f1, g2], ?_, hm, ?_⟩
      · rw [lookM, find_of_mem hnd (List.mem_of_getElem? hm)]
        rfl
      · rw [← Array.getElem?_toList, f2]
        simp [f3]
theorem MapS.look (h : MapS t w b m) (hs : s.size ≤ maxLen) (c : Bool) : (Instr.lookup t.T (.map (some b)) (.string s) c).run Tryd.prog w = .ok (if c then .tuple #[((lookM m s).map t.val).getD t.z, .bool (lookM m s).isSome] else ((lookM m s).map t.val).getD t.z) w := by
  obtain ⟨arr, clock, h1, h2, h3, hc⟩ := h.find hs
  obtain ⟨lx, hlx⟩ : ∃ l, keyOf Tryd.prog 9 (.string s) = some l := ⟨_, keyOf_string_mk u9 hs⟩
  rcases hc with ⟨f1, f2, f3, _⟩ | ⟨j, x, f1, f2, f3, f4⟩
  · rw [f3]
    simp [Instr.lookup, run_underlying t.und, MapKept.run_getObj_map h1, key9.check w _ hlx, f1, t.hz, Result.andThen]
  · rw [f2]
    simp [Instr.lookup, run_underlying t.und, MapKept.run_getObj_map h1, key9.check w _ hlx, f1, Result.andThen]
theorem MapS.len (h : MapS t w b m) (ty : TypeId) : (Builtin.len_ #[t.T] ty #[.map (some b)]).run Tryd.prog w = .ok (.int .i64 (m.length : Int)) w := by
  obtain ⟨arr, clock, h1, h2, h3, h4⟩ := h
  have e : arr.size = m.length := by have := congrArg List.length h3; simpa using this
  simp [Builtin.len_, run_underlying t.und, MapKept.run_getObj_map h1, goInt, Result.andThen, e]
theorem key_at (hn : (m.map (·.1)).Nodup) {i j : Nat} {p : ByteArray × α} (hj : m[j]? = some (s, x)) (hi : m[i]? = some p) : keyB s p = true ↔ i = j := by
  have h1 : (m.map (·.1))[j]? = some s := by rw [List.getElem?_map, hj]; rfl
  have h2 : (m.map (·.1))[i]? = some p.1 := by rw [List.getElem?_map, hi]; rfl
  constructor
  · intro hk
    rw [keyB_iff.1 hk] at h2
    have l1 := (List.getElem?_eq_some_iff.1 h2).1
    exact (List.getElem?_inj l1 hn).1 (h2.trans h1.symm)
  · rintro rfl
    rw [hi] at hj
    cases hj
    exact keyB_iff.2 rfl
def setB (w : World) (b : Nat) (o : Obj) : World := { w with heap := w.heap.setIfInBounds b o }
theorem putB {arr : Array MapEntry} {clock : Nat} {o : Obj} (h1 : w.heap[b]? = some (.map arr clock)) : But b w (setB w b o) ∧ (setB w b o).heap.size = w.heap.size ∧ (setB w b o).heap[b]? = some o := by
  have hlt := heapLt h1
  refine ⟨⟨rfl, rfl, rfl, by simp [setB], fun k hk hne => by simp only [setB]; rw [Array.getElem?_setIfInBounds_ne (fun e => hne e.symm)]⟩, by simp [setB], by simp [setB, hlt]⟩
theorem MapS.update (h : MapS t w b m) (hs : s.size ≤ maxLen) (x : α) : ∃ w', (Instr.mapUpdate t.T (.map (some b)) (.string s) (t.val x)).run Tryd.prog w = .ok () w' ∧ MapS t w' b (updM m s x) ∧ But b w w' ∧ w'.heap.size = w.heap.size := by
  have hnd := h.nodup
  have h4 : ∀ p ∈ m, p.1.size ≤ maxLen := by obtain ⟨_, _, _, _, _, h4⟩ := h; exact h4
  obtain ⟨arr, clock, h1, h2, h3, hc⟩ := h.find hs
  obtain ⟨lx, hlx⟩ : ∃ l, keyOf Tryd.prog 9 (.string s) = some l := ⟨_, keyOf_string_mk u9 hs⟩
  have put := fun o => putB (o := o) h1
  rcases hc with ⟨f1, f2, f3, f5⟩ | ⟨j, y, f1, f2, f3, f4⟩
  · obtain ⟨p1, p2, p3⟩ := put (.map (arr.push ⟨.string s, t.val x, clock⟩) (clock + 1))
    refine ⟨_, ?_, ⟨_, _, p3, stamped_push h2 f2, ?_, ?_⟩, p1, p2⟩
    · simp [Instr.mapUpdate, run_underlying t.und, MapKept.run_getObj_map h1, key9.check w _ hlx, f1, Result.andThen, MapKept.run_setObj_map _ h1, setB]
    · rw [updM, f3]
      simp [h3]
    · intro p hp
      rw [updM, f3] at hp
      rcases List.mem_append.1 hp with hp | hp
      · exact h4 p hp
      · simp at hp
        rw [hp]
        exact hs
  · have hk : ((arr[j]?).map (·.key)).getD (.string s) = .string s := by rw [f4]; rfl
    obtain ⟨p1, p2, p3⟩ := put (.map (arr.modify j fun e => { e with key := .string s, val := t.val x }) clock)
    refine ⟨_, ?_, ⟨_, _, p3, stamped_modify h2 j _ (fun _ _ => rfl) (fun e _ he => by rw [he] at f4; simp at f4; exact f4.symm), ?_, ?_⟩, p1, p2⟩
    · simp [Instr.mapUpdate, run_underlying t.und, MapKept.run_getObj_map h1, key9.check w _ hlx, f1, hk, key9.stays w hlx, Result.andThen, MapKept.run_setObj_map _ h1, setB]
    · rw [updM, f2]
      refine List.ext_getElem? fun i => ?_
      have hi := congrArg (fun l => l[i]?) h3
      simp only [List.getElem?_map] at hi
      simp only [List.getElem?_map, Array.getElem?_toList, Array.getElem?_modify, Option.isSome_some, if_true]
      cases hm : m[i]? with
      | none =>
        rw [hm] at hi
        simp only [Option.map_none, Option.map_eq_none_iff, Array.getElem?_toList] at hi
        rw [hi]
        simp
      | some p =>
        rw [hm] at hi
        simp only [Option.map_some] at hi
        rw [Array.getElem?_toList] at hi
        cases ha : arr[i]? with
        | none => rw [ha] at hi; cases hi
        | some e =>
          rw [ha] at hi
          simp only [Option.map_some, Option.some.injEq] at hi
          by_cases hij : i = j
          · subst hij
            have hkb := (key_at hnd f3 hm).2 rfl
            simp [hkb]
          · have hkb : keyB s p = false := by rw [Bool.eq_false_iff]; exact fun hk => hij ((key_at hnd f3 hm).1 hk)
            rw [if_neg (fun e => hij e.symm)]
            simp [hkb, hi]
    · intro p hp
      rw [updM, f2] at hp
      simp only [Option.isSome_some, if_true] at hp
      obtain ⟨q, hq, rfl⟩ := List.mem_map.1 hp
      split
      · exact hs
      · exact h4 q hq
theorem filter_erase : ∀ (m : List (ByteArray × α)) (j : Nat), (∀ i p, m[i]? = some p → (keyB s p = true ↔ i = j)) → m.filter (fun p => !keyB s p) = m.eraseIdx j
  | [], _, _ => by simp
  | p :: m, 0, h => by
    have h0 := (h 0 p rfl).2 rfl
    rw [List.filter_cons_of_neg (by simp [h0]), List.eraseIdx_cons_zero, List.filter_eq_self]
    intro q hq
    obtain ⟨i, hi⟩ := List.getElem?_of_mem hq
    have := h (i + 1) q (by simpa using hi)
    simp only [Nat.add_eq_zero_iff, Nat.succ_ne_self, and_false, iff_false] at this
    simpa using this
  | p :: m, j + 1, h => by
    have h0 : keyB s p = false := by
      rw [Bool.eq_false_iff]
      intro hk
      have := (h 0 p rfl).1 hk
      omega
    rw [List.filter_cons_of_pos (by simp [h0]), List.eraseIdx_cons_succ, filter_erase m j fun i q hq => ?_]
    have := h (i + 1) q (by simpa using hq)
    rw [this]
    omega
theorem MapS.delete (h : MapS t w b m) (hs : s.size ≤ maxLen) (ty : TypeId) : ∃ w', (Builtin.delete_ #[t.T, 9] ty #[.map (some b), .string s]).run Tryd.prog w = .ok (.tuple #[]) w' ∧ MapS t w' b (delM m s) ∧ But b w w' ∧ w'.heap.size = w.heap.size := by
  have hnd := h.nodup
  have h4 : ∀ p ∈ m, p.1.size ≤ maxLen := by obtain ⟨_, _, _, _, _, h4⟩ := h; exact h4
  obtain ⟨arr, clock, h1, h2, h3, hc⟩ := h.find hs
  obtain ⟨lx, hlx⟩ : ∃ l, keyOf Tryd.prog 9 (.string s) = some l := ⟨_, keyOf_string_mk u9 hs⟩
  have put := fun o => putB (o := o) h1
  rcases hc with ⟨f1, f2, f3, f5⟩ | ⟨j, y, f1, f2, f3, f4⟩
  · obtain ⟨p1, p2, p3⟩ := put (.map arr clock)
    refine ⟨_, ?_, ⟨_, _, p3, h2, ?_, fun p hp => h4 p (List.mem_filter.1 hp).1⟩, p1, p2⟩
    · simp [Builtin.delete_, run_underlying t.und, MapKept.run_getObj_map h1, key9.check w _ hlx, f1, Result.andThen, MapKept.run_setObj_map _ h1, setB]
    · rw [delM, List.filter_eq_self.2 (fun p hp => by simp [f5 p hp])]
      exact h3
  · obtain ⟨p1, p2, p3⟩ := put (.map (arr.eraseIdxIfInBounds j) clock)
    have hjs : j < arr.size := by
      have := (List.getElem?_eq_some_iff.1 f3).1
      have e := congrArg List.length h3
      simp at e
      omega
    refine ⟨_, ?_, ⟨_, _, p3, stamped_erase h2 j, ?_, fun p hp => h4 p (List.mem_filter.1 hp).1⟩, p1, p2⟩
    · simp [Builtin.delete_, run_underlying t.und, MapKept.run_getObj_map h1, key9.check w _ hlx, f1, Result.andThen, MapKept.run_setObj_map _ h1, setB]
    · rw [delM, filter_erase m j fun i p hp => key_at hnd f3 hp]
      have hsub : (arr.eraseIdxIfInBounds j).toList = arr.toList.eraseIdx j := by
        unfold Array.eraseIdxIfInBounds
        rw [dif_pos hjs]
        simp
      rw [hsub]
      have : ∀ {β γ : Type} (f : β → γ) (l : List β) (k : Nat), (l.eraseIdx k).map f = (l.map f).eraseIdx k := by
        intro β γ f l
        induction l with
        | nil => intro k; simp
        | cons a l ih => intro k; cases k <;> simp [ih]
      rw [this, this, h3]
end
section
variable {α : Type} (t : Mt α) {o : Oper} {a : Act} {w : World} {Q : Exit → Act → World → Prop} {ops : Array Oper} {rest : List Oper} {b : Nat} {m : List (ByteArray × α)}
theorem wpList_upd (hg : o.guard = none) (mo xo vo : Operand) (hop : o.op = Op.mapUpdate t.T mo xo vo) (s : ByteArray) (x : α) (hm : a.eval mo = .map (some b)) (hx : a.eval xo = .string s) (hv : a.eval vo = t.val x) (h : MapS t w b m) (hs : s.size ≤ maxLen)
    (hK : ∀ w', MapS t w' b (updM m s x) → But b w w' → w'.heap.size = w.heap.size → wpList Tryd.prog ops Q rest (a.put o.dst undef) w') : wpList Tryd.prog ops Q (o :: rest) a w := by
  refine wpList_plain hg fun K' hK' => ?_
  obtain ⟨w', hrun, r1, r2, r3⟩ := h.update hs x
  unfold Oper.wp
  simp [execOp, hop, hm, hx, hv, hrun, Result.andThen]
  exact hK' _ _ (hK w' r1 r2 r3)
theorem wpList_del (hg : o.guard = none) (mo xo : Operand) (hop : o.op = Op.call { callee := Callee.builtin Builtin.delete, args := #[mo, xo], argTypes := #[t.T, 9] }) (s : ByteArray) (hm : a.eval mo = .map (some b)) (hx : a.eval xo = .string s) (h : MapS t w b m) (hs : s.size ≤ maxLen)
    (hK : ∀ w', MapS t w' b (delM m s) → But b w w' → w'.heap.size = w.heap.size → wpList Tryd.prog ops Q rest (a.put o.dst (.tuple #[])) w') : wpList Tryd.prog ops Q (o :: rest) a w := by
  refine wpList_plain hg fun K' hK' => ?_
  obtain ⟨w', hrun, r1, r2, r3⟩ := h.delete hs o.type
  unfold Oper.wp
  simp [execOp, hop, resolve, invoke, builtin, hm, hx, hrun, Result.andThen]
  exact hK' _ _ (hK w' r1 r2 r3)
theorem wpList_look (hg : o.guard = none) (mo xo : Operand) (c : Bool) (hop : o.op = Op.lookup t.T mo xo c) (s : ByteArray) (hm : a.eval mo = .map (some b)) (hx : a.eval xo = .string s) (h : MapS t w b m) (hs : s.size ≤ maxLen) (r : Value)
    (hr : r = if c then .tuple #[((lookM m s).map t.val).getD t.z, .bool (lookM m s).isSome] else ((lookM m s).map t.val).getD t.z) (hK : wpList Tryd.prog ops Q rest (a.put o.dst r) w) : wpList Tryd.prog ops Q (o :: rest) a w := by
  refine wpList_plain hg fun K' hK' => ?_
  have hrun := h.look hs c
  rw [← hr] at hrun
  unfold Oper.wp
  simp [execOp, hop, hm, hx, hrun, Result.andThen]
  exact hK' _ _ hK
end
end Go.Proofs.YtcmkjjlchljffaaDoor

/- The landed disk in memory: its cells, its map of files, each file's bytes in a block of its own. -/
namespace Go.Proofs.YtcmkjjlchljffaaDoor
open Go.RowKit
set_option linter.unusedVariables false

/-- A file of the map: its bytes' slice, the bytes, how many are safe, whether it lasts. -/
structure FM where
  v : Value
  bs : List UInt8
  sf : Nat
  hd : Bool
def FM.val (f : FM) : Value := .agg #[f.v, .int .i64 (f.sf : Int), .bool f.hd]
def FM.cells (f : FM) : List Value := [f.v, .int .i64 (f.sf : Int), .bool f.hd]
def toFi (p : ByteArray × FM) : Fi := ⟨p.1, p.2.bs, p.2.sf, p.2.hd⟩
def mF : Mt FM := ⟨33, 66, FM.val, .agg #[.slice none 0 0, .int .i64 0, .bool false], by kernel_rfl, fun w => by kernel_rfl⟩
abbrev FMap := List (ByteArray × FM)
/-- The blocks of a disk. -/
def FW (g mb : Nat) (m : FMap) : Nat → Prop := fun k => k = g ∨ k = mb ∨ ∃ p ∈ m, p.2.v.ownBlock = some k
/-- The landed disk in memory. -/
structure Ds (B : Nat) (w : World) (g mb : Nat) (m : FMap) (sz : Nat) (lf : Int) (wr : Nat) : Prop where
  at_ : At 35 w g [.pointer (some ⟨g, 0, none⟩), .int .i64 (sz : Int), .map (some mb), .int .i64 lf, .int .i64 (wr : Int)]
  mp : MapS mF w mb m
  own : ∀ p ∈ m, OwnX eB B w p.2.v p.2.bs
  apart : ∀ p ∈ m, ∀ q ∈ m, p.1 ≠ q.1 → ∀ k, p.2.v.ownBlock = some k → q.2.v.ownBlock ≠ some k
  bg : B ≤ g
  bm : B ≤ mb
  ns : ∀ p ∈ m, p.1.size ≤ 40
section
variable {B g mb : Nat} {w w' : World} {m : FMap} {sz wr : Nat} {lf : Int}
theorem Ds.same (h : Ds B w g mb m sz lf wr) (k : ∀ k, FW g mb m k → w'.heap[k]? = w.heap[k]?) : Ds B w' g mb m sz lf wr :=
  ⟨h.at_.same (k g (.inl rfl)), h.mp.same (k mb (.inr (.inl rfl))), fun p hp => (h.own p hp).same fun i hi => k i (.inr (.inr ⟨p, hp, hi⟩)), h.apart, h.bg, h.bm, h.ns⟩
theorem Ds.lt (h : Ds B w g mb m sz lf wr) : ∀ k, FW g mb m k → k < w.heap.size := by
  rintro k (rfl | rfl | ⟨p, hp, hk⟩)
  · exact heapLt h.at_
  · exact h.mp.lt
  · exact ((h.own p hp).block k hk).2.1
theorem Ds.base (h : Ds B w g mb m sz lf wr) : ∀ k, FW g mb m k → B ≤ k := by
  rintro k (rfl | rfl | ⟨p, hp, hk⟩)
  · exact h.bg
  · exact h.bm
  · exact ((h.own p hp).block k hk).1
theorem Ds.below (h : Ds B w g mb m sz lf wr) (hb : Below w.heap.size w w') : Ds B w' g mb m sz lf wr := h.same fun k hk => hb.block k (h.lt k hk)
theorem Ds.ne (h : Ds B w g mb m sz lf wr) : g ≠ mb := by
  intro e
  obtain ⟨arr, clock, h1, _⟩ := h.mp
  have h2 : w.heap[g]? = some (.cells _ 35 (0, 0)) := h.at_
  rw [e, h1] at h2
  cases h2
theorem Ds.neG (h : Ds B w g mb m sz lf wr) {p : ByteArray × FM} (hp : p ∈ m) : p.2.v.ownBlock ≠ some g := fun e => by
  obtain ⟨_, _, cs, hA⟩ := (h.own p hp).block g e
  exact hA.ne h.at_ (show (5 : Nat) ≠ 35 by decide) rfl
theorem Ds.neM (h : Ds B w g mb m sz lf wr) {p : ByteArray × FM} (hp : p ∈ m) : p.2.v.ownBlock ≠ some mb := fun e => by
  obtain ⟨_, _, cs, hA⟩ := (h.own p hp).block mb e
  obtain ⟨arr, clock, h1, _⟩ := h.mp
  have h2 : w.heap[mb]? = some (.cells _ 5 (0, 0)) := hA
  rw [h1] at h2
  cases h2
theorem find_lk (nm : ByteArray) : ∀ m : FMap, (m.map toFi).find? (isN nm) = (m.find? (keyB nm)).map toFi
  | [] => rfl
  | p :: m => by
    rw [List.map_cons]
    cases hk : keyB nm p with
    | true => rw [List.find?_cons_of_pos (by exact hk), List.find?_cons_of_pos hk]; rfl
    | false => rw [List.find?_cons_of_neg (by show ¬ (keyB nm p = true); rw [hk]; simp), List.find?_cons_of_neg (by rw [hk]; simp)]; exact find_lk nm m
theorem look_find {nm : ByteArray} {m : FMap} : (m.map toFi).find? (isN nm) = (lookM m nm).map (fun f => toFi (nm, f)) := by
  rw [find_lk, lookM]
  cases hf : m.find? (keyB nm) with
  | none => rfl
  | some p =>
    have := keyB_iff.1 (List.find?_some hf)
    subst this
    rfl
theorem look_mem {nm : ByteArray} {m : FMap} {f : FM} (h : lookM m nm = some f) : (nm, f) ∈ m := by
  unfold lookM at h
  cases hf : m.find? (keyB nm) with
  | none => rw [hf] at h; cases h
  | some p =>
    rw [hf] at h
    have h1 := keyB_iff.1 (List.find?_some hf)
    injection h with h
    rw [← h, ← h1]
    exact List.mem_of_find?_eq_some hf
theorem isN_inj {a b : ByteArray} {f : Fi} (h : f.nm = b) : isN a f = false ↔ a ≠ b := by
  unfold isN
  rw [h, beq_eq_false_iff_ne, ne_eq, ne_eq]
  exact ⟨fun q e => q (by rw [e]), fun q e => q (toL_inj e).symm⟩
end
/-- What the program's disk is. -/
structure CDv (B : Nat) (w : World) (g mb : Nat) (W F : Nat → Prop) (m : FMap) (d : Dk) : Prop where
  ds : Ds B w g mb m d.sz d.lf d.wr
  fs : (m.map toFi).Perm d.fs
  sub : ∀ k, FW g mb m k → W k
  wf : ∀ k, W k → F k ∧ B ≤ k
  lt : ∀ k, F k → k < w.heap.size
def CDp : CDT := fun B w g W F d => ∃ mb m, CDv B w g mb W F m d
section
variable {B g mb : Nat} {w w' : World} {W F : Nat → Prop} {m : FMap} {d : Dk}
theorem CDv.same (h : CDv B w g mb W F m d) (k : ∀ k, F k → w'.heap[k]? = w.heap[k]?) (hs : w.heap.size ≤ w'.heap.size) : CDv B w' g mb W F m d :=
  ⟨h.ds.same fun i hi => k i (h.wf i (h.sub i hi)).1, h.fs, h.sub, h.wf, fun i hi => Nat.lt_of_lt_of_le (h.lt i hi) hs⟩
/-- Names are apart. -/
theorem apart_of {fs : List Fi} (hn : (fs.map Fi.nm).Nodup) : fs.Pairwise (fun a b => isN a.nm b = false) := by
  rw [List.nodup_iff_pairwise_ne, List.pairwise_map] at hn
  exact hn.imp fun {a b} q => (isN_inj rfl).2 q
theorem CDv.nodup (h : CDv B w g mb W F m d) : (d.fs.map Fi.nm).Nodup := by
  have h1 := h.ds.mp.nodup
  have h2 := h.fs.map Fi.nm
  rw [List.map_map] at h2
  exact h2.nodup_iff.1 h1
theorem find_perm {nm : ByteArray} : ∀ {a b : List Fi}, a.Perm b → (a.map Fi.nm).Nodup → a.find? (isN nm) = b.find? (isN nm) := by
  intro a b hp hn
  cases ha : a.find? (isN nm) with
  | none =>
    symm
    rw [List.find?_eq_none] at ha ⊢
    exact fun x hx => ha x (hp.mem_iff.2 hx)
  | some f =>
    cases hb : b.find? (isN nm) with
    | none =>
      rw [List.find?_eq_none] at hb
      exact absurd (List.find?_some ha) (hb f (hp.mem_iff.1 (List.mem_of_find?_eq_some ha)))
    | some f' =>
      have m1 := List.mem_of_find?_eq_some ha
      have m2 := hp.mem_iff.2 (List.mem_of_find?_eq_some hb)
      have e1 := List.find?_some ha
      have e2 := List.find?_some hb
      have en : f.nm = f'.nm := by
        unfold isN at e1 e2
        rw [beq_iff_eq] at e1 e2
        exact toL_inj (e1.trans e2.symm)
      congr 1
      clear ha hb e1 e2 hp
      revert m1 m2
      induction a with
      | nil => intro m1; cases m1
      | cons x a ih =>
        intro m1 m2
        rw [List.map_cons, List.nodup_cons] at hn
        rcases List.mem_cons.1 m1 with q1 | q1
        · rcases List.mem_cons.1 m2 with q2 | q2
          · rw [q1, q2]
          · exact absurd (List.mem_map.2 ⟨f', q2, by rw [← en, q1]⟩) hn.1
        · rcases List.mem_cons.1 m2 with q2 | q2
          · exact absurd (List.mem_map.2 ⟨f, q1, by rw [en, q2]⟩) hn.1
          · exact ih hn.2 q1 q2
theorem CDv.find (h : CDv B w g mb W F m d) (nm : ByteArray) : d.fs.find? (isN nm) = (lookM m nm).map (fun f => toFi (nm, f)) := by
  rw [← look_find]
  refine (find_perm h.fs ?_).symm
  rw [List.map_map]
  exact h.ds.mp.nodup
end
end Go.Proofs.YtcmkjjlchljffaaDoor

/- The landed disk: what it tells of itself. -/
namespace Go.Proofs.YtcmkjjlchljffaaDoor
open Go.RowKit
set_option linter.unusedVariables false
set_option maxRecDepth 100000

section
variable {g : Nat} {w : World} {c1 c2 c3 c4 : Value}
theorem i35 : ∃ j, Tryd.prog.info? 35 = some j := by
  cases h : Tryd.prog.info? 35 with
  | some j => exact ⟨j, rfl⟩
  | none =>
    have : (Tryd.prog.info? 35).isSome = true := by kernel_rfl
    rw [h] at this; cases this
theorem eq_ptr (a : Addr) (u : World) : (binOp .eql 22 (.pointer (some a)) (.pointer (some a))).run Tryd.prog u = .ok (.bool true) u := by
  obtain ⟨j, hj⟩ := i35
  exact run_eql_ptr_same u a Tryd.underlying22 hj
theorem eq_ptr0 (a : Addr) (u : World) : (binOp .eql 22 (.pointer none) (.pointer (some a))).run Tryd.prog u = .ok (.bool false) u := by
  have h : ∀ d : Nat, (Op.equalIn (d + 1) 22 (.pointer none) (.pointer (some a))).run Tryd.prog u = .ok false u := fun d => by
    simp [Op.equalIn, run_underlying Tryd.underlying22]
  simp only [binOp]
  simp [Op.equal, Op.maxDepth, h 9999]
theorem made_yes (h : At 35 w g [.pointer (some ⟨g, 0, none⟩), c1, c2, c3, c4]) : Calls Tryd.prog 33 #[.pointer (some ⟨g, 0, none⟩)] w fun r w' => r = .returned (.bool true) ∧ w' = w := by
  have q := h.cell 0
  simp only [List.getElem?_cons_zero] at q
  go_enter Tryd.func33, Tryd.ntmps33
  go_wp2
  rw [eq_ptr]
  go_wp2
  go_ret
  exact ⟨rfl, rfl⟩
theorem made_no (h : At 35 w g [.pointer none, c1, c2, c3, c4]) : Calls Tryd.prog 33 #[.pointer (some ⟨g, 0, none⟩)] w fun r w' => r = .returned (.bool false) ∧ w' = w := by
  have q := h.cell 0
  simp only [List.getElem?_cons_zero] at q
  go_enter Tryd.func33, Tryd.ntmps33
  go_wp2
  rw [eq_ptr0]
  go_wp2
  go_ret
  exact ⟨rfl, rfl⟩
theorem made_nil (w : World) : Calls Tryd.prog 33 #[.pointer none] w fun r w' => r = .returned (.bool false) ∧ w' = w := by
  go_enter Tryd.func33, Tryd.ntmps33
  go_wp2
  go_ret
  exact ⟨rfl, rfl⟩
end
section
variable {B g mb : Nat} {w : World} {m : FMap} {sz wr : Nat} {lf : Int}
theorem size_p (h : Ds B w g mb m sz lf wr) : Calls Tryd.prog 22 #[.pointer (some ⟨g, 0, none⟩)] w fun r w' => r = .returned (.int .i64 (sz : Int)) ∧ w' = w := by
  have HM := hidU (made_yes h.at_)
  have q := h.at_.cell 1
  simp only [List.getElem?_cons_zero, List.getElem?_cons_succ] at q
  clear h
  go_enter Tryd.func22, Tryd.ntmps22
  go_wp2_with (go_at_call 33; refine HM.out.mono ?_; rintro _ w1 ⟨rfl, hw⟩; obtain rfl : w = w1 := hw.symm; clear hw)
  go_ret
  exact ⟨rfl, rfl⟩
theorem writes_p (h : Ds B w g mb m sz lf wr) : Calls Tryd.prog 25 #[.pointer (some ⟨g, 0, none⟩)] w fun r w' => r = .returned (.int .i64 (wr : Int)) ∧ w' = w := by
  have HM := hidU (made_yes h.at_)
  have q := h.at_.cell 4
  simp only [List.getElem?_cons_zero, List.getElem?_cons_succ] at q
  clear h
  go_enter Tryd.func25, Tryd.ntmps25
  go_wp2_with (go_at_call 33; refine HM.out.mono ?_; rintro _ w1 ⟨rfl, hw⟩; obtain rfl : w = w1 := hw.symm; clear hw)
  go_ret
  exact ⟨rfl, rfl⟩
theorem stopped_p (h : Ds B w g mb m sz lf wr) : Calls Tryd.prog 24 #[.pointer (some ⟨g, 0, none⟩)] w fun r w' => r = .returned (.bool (lf == 0)) ∧ w' = w := by
  have HM := hidU (made_yes h.at_)
  have q := h.at_.cell 3
  simp only [List.getElem?_cons_zero, List.getElem?_cons_succ] at q
  clear h
  go_enter Tryd.func24, Tryd.ntmps24
  go_wp2_with (go_at_call 33; refine HM.out.mono ?_; rintro _ w1 ⟨rfl, hw⟩; obtain rfl : w = w1 := hw.symm; clear hw)
  go_ret
  exact ⟨rfl, rfl⟩
end
/-- A file's loose bytes. -/
theorem loose_any (f : FM) (n : Nat) (c : Nat) (a : Option Addr) (w : World) (hv : f.v = .slice a n c) (hs : f.sf ≤ 4611686018427387904) (hn : n ≤ 4611686018427387904) : Calls Tryd.prog 51 #[f.val] w fun r w' => r = .returned (.int .i64 ((n : Int) - f.sf)) ∧ Below w.heap.size w w' := by
  obtain ⟨v, bs, sf, hd⟩ := f
  simp only at hv hs
  subst hv
  unfold FM.val
  go_enter Tryd.func51, Tryd.ntmps51
  go_wp2
  go_ret
  exact ⟨rfl, (Below.refl _ w).alloc (Nat.le_refl _) _⟩
end Go.Proofs.YtcmkjjlchljffaaDoor

/- The landed disk: made, New, lacks, Loose. -/
namespace Go.Proofs.YtcmkjjlchljffaaDoor
open Go.RowKit
set_option linter.unusedVariables false
set_option maxRecDepth 100000
set_option maxHeartbeats 3200000

section
variable {B g mb : Nat} {w : World} {m : FMap} {sz wr : Nat} {lf : Int} {nm : ByteArray}
theorem Ds.files (h : Ds B w g mb m sz lf wr) : w.cell? ⟨g, 2, none⟩ = some (.map (some mb)) := by
  have q := h.at_.cell 2
  simpa only [List.getElem?_cons_zero, List.getElem?_cons_succ] using q
def lkZ (m : FMap) (nm : ByteArray) : Int := if (lookM m nm).isSome then 0 else 6
theorem lacks_p (h : Ds B w g mb m sz lf wr) (hs : nm.size ≤ 9223372036854775807) : Calls Tryd.prog 49 #[.pointer (some ⟨g, 0, none⟩), .string nm] w fun r w' => r = .returned (.int .i64 (lkZ m nm)) ∧ Below w.heap.size w w' := by
  have HM := hidU (made_yes h.at_)
  have q := h.files
  have HP := hidU h.mp
  obtain ⟨R, hR⟩ : ∃ R, Hid (R = lkZ m nm) := ⟨_, (rfl : _ = lkZ _ _)⟩
  rw [← hR.out]
  cases hl : lookM m nm with
  | none =>
    have e : R = 6 := by rw [hR.out, lkZ, hl]; rfl
    subst e
    have HL := hidU hl
    clear h hR hl
    go_enter Tryd.func49, Tryd.ntmps49
    go_wp2_with (first
      | (go_at_call 33; refine HM.out.mono ?_; rintro _ w1 ⟨rfl, hw⟩; obtain rfl : w = w1 := hw.symm; clear hw)
      | (refine wpList_look mF rfl (.tmp 14) (.tmp 15) true rfl nm rfl rfl HP.out hs (.tuple #[.agg #[.slice none 0 0, .int .i64 0, .bool false], .bool false]) (by rw [HL.out]; rfl) ?_))
    go_ret
    exact ⟨rfl, (Below.refl _ w).alloc (Nat.le_refl _) _⟩
  | some f =>
    have e : R = 0 := by rw [hR.out, lkZ, hl]; rfl
    subst e
    obtain ⟨a, c, hv, _⟩ := (h.own _ (look_mem hl)).row
    obtain ⟨v, bs, sf, hd⟩ := f
    simp only at hv
    subst hv
    have HL := hidU hl
    obtain ⟨n, hn⟩ : ∃ n, Hid (bs.length = n) := ⟨_, (rfl : bs.length = _)⟩
    rw [hn.out] at HL
    clear h hR hl
    go_enter Tryd.func49, Tryd.ntmps49
    go_wp2_with (first
      | (go_at_call 33; refine HM.out.mono ?_; rintro _ w1 ⟨rfl, hw⟩; obtain rfl : w = w1 := hw.symm; clear hw)
      | (refine wpList_look mF rfl (.tmp 14) (.tmp 15) true rfl nm rfl rfl HP.out hs (.tuple #[.agg #[.slice a n c, .int .i64 (sf : Int), .bool hd], .bool true]) (by rw [HL.out]; rfl) ?_))
    go_ret
    exact ⟨rfl, (Below.refl _ w).alloc (Nat.le_refl _) _⟩
end
end Go.Proofs.YtcmkjjlchljffaaDoor

/- The landed disk: Loose, Stop, made, New. -/
namespace Go.Proofs.YtcmkjjlchljffaaDoor
open Go.RowKit
set_option linter.unusedVariables false
set_option maxRecDepth 100000
set_option maxHeartbeats 3200000

section
variable {B g mb : Nat} {w : World} {m : FMap} {sz wr : Nat} {lf : Int} {nm : ByteArray}
theorem look_parts {f : FM} (h : Ds B w g mb m sz lf wr) (hl : lookM m nm = some f) : ∃ a n c bs sf hd, f = ⟨.slice a n c, bs, sf, hd⟩ ∧ bs.length = n ∧ n ≤ c ∧ c ≤ maxLen ∧ (a = none → c = 0) ∧ Row w a bs ∧ OwnX eB B w (.slice a n c) bs := by
  have ho := h.own _ (look_mem hl)
  obtain ⟨a, c, hv, h1, h2, h3, _, h4⟩ := ho.row
  obtain ⟨v, bs, sf, hd⟩ := f
  simp only at hv
  subst hv
  exact ⟨a, bs.length, c, bs, sf, hd, rfl, rfl, h1, h2, h3, rowB.1 h4, ho⟩
def lsM (m : FMap) (nm : ByteArray) : Int := match lookM m nm with | some f => (f.bs.length : Int) - f.sf | none => 0
theorem loose_p (h : Ds B w g mb m sz lf wr) (hs : nm.size ≤ 9223372036854775807) (hb : ∀ p ∈ m, p.2.bs.length ≤ 4611686018427387904 ∧ p.2.sf ≤ 4611686018427387904) : Calls Tryd.prog 23 #[.pointer (some ⟨g, 0, none⟩), .string nm] w fun r w' => r = .returned (.int .i64 (lsM m nm)) ∧ Below w.heap.size w w' := by
  have HM := hidU (made_yes h.at_)
  have q := h.files
  have HP := hidU h.mp
  obtain ⟨R, hR⟩ : ∃ R, Hid (R = lsM m nm) := ⟨_, (rfl : _ = lsM _ _)⟩
  rw [← hR.out]
  cases hl : lookM m nm with
  | none =>
    have e : R = 0 := by rw [hR.out, lsM, hl]
    subst e
    have HL := hidU hl
    have HC := hidU (loose_any ⟨.slice none 0 0, [], 0, false⟩ 0 0 none w rfl (by decide) (by decide))
    clear h hR hl
    go_enter Tryd.func23, Tryd.ntmps23
    go_wp2_with (first
      | (go_at_call 33; refine HM.out.mono ?_; rintro _ w1 ⟨rfl, hw⟩; obtain rfl : w = w1 := hw.symm; clear hw)
      | (refine wpList_look mF rfl (.tmp 11) (.tmp 12) false rfl nm rfl rfl HP.out hs (.agg #[.slice none 0 0, .int .i64 0, .bool false]) (by rw [HL.out]; rfl) ?_)
      | (go_at_call 51; refine HC.out.mono ?_; rintro _ w1 ⟨rfl, hw⟩))
    go_ret
    exact ⟨rfl, hw⟩
  | some f =>
    obtain ⟨a, n, c, bs, sf, hd, rfl, hn, _, _, _, _, _⟩ := look_parts h hl
    have e : R = (n : Int) - sf := by rw [hR.out, lsM, hl]; simp only; rw [hn]
    subst e
    have HL := hidU hl
    have hbb := hb _ (look_mem hl)
    simp only [hn] at hbb
    have HC := hidU (loose_any ⟨.slice a n c, bs, sf, hd⟩ n c a w rfl hbb.2 hbb.1)
    clear h hR hl hn hb hbb
    go_enter Tryd.func23, Tryd.ntmps23
    go_wp2_with (first
      | (go_at_call 33; refine HM.out.mono ?_; rintro _ w1 ⟨rfl, hw⟩; obtain rfl : w = w1 := hw.symm; clear hw)
      | (refine wpList_look mF rfl (.tmp 11) (.tmp 12) false rfl nm rfl rfl HP.out hs (.agg #[.slice a n c, .int .i64 (sf : Int), .bool hd]) (by rw [HL.out]; rfl) ?_)
      | (go_at_call 51; refine HC.out.mono ?_; rintro _ w1 ⟨rfl, hw⟩))
    go_ret
    exact ⟨rfl, hw⟩
theorem stop_p (z : Int) (h : Ds B w g mb m sz lf wr) : Calls Tryd.prog 18 #[.pointer (some ⟨g, 0, none⟩), .int .i64 z] w fun r w' => r = .returned (.int .i64 (stZ z)) ∧ Ds B w' g mb m sz (if z < 0 then lf else if lf = 0 then 0 else z) wr ∧ But g w w' := by
  have HM := hidU (made_yes h.at_)
  have HS := hidU (stopped_p h)
  have HA := hidU h.at_
  have q := h.at_.cell 3
  simp only [List.getElem?_cons_zero, List.getElem?_cons_succ] at q
  have HK := hidU (fun (w' : World) (y : Int) (hb : But g w w') (hA : At 35 w' g [.pointer (some ⟨g, 0, none⟩), .int .i64 (sz : Int), .map (some mb), .int .i64 y, .int .i64 (wr : Int)]) =>
    (⟨hA, h.mp.same (hb.block _ h.mp.lt fun e => h.ne e.symm), fun p hp => (h.own p hp).same fun i hi => hb.block i ((h.own p hp).block i hi).2.1 (fun e => h.neG hp (e ▸ hi)), h.apart, h.bg, h.bm, h.ns⟩ : Ds B w' g mb m sz y wr))
  have H0 := hidU h
  clear h
  obtain ⟨Z, hZ⟩ : ∃ Z, Hid (Z = stZ z) := ⟨_, (rfl : _ = stZ _)⟩
  rw [← hZ.out]
  by_cases hz : z < 0
  · have e : Z = 2 := by rw [hZ.out, stZ, if_pos hz]
    subst e
    rw [if_pos hz]
    go_enter Tryd.func18, Tryd.ntmps18
    go_wp2_with (first
      | (go_at_call 33; refine HM.out.mono ?_; rintro _ w1 ⟨rfl, hw⟩; obtain rfl : w = w1 := hw.symm; clear hw))
    go_ret
    exact ⟨rfl, H0.out, But.refl _ _⟩
  · have e : Z = 0 := by rw [hZ.out, stZ, if_neg hz]
    subst e
    rw [if_neg hz]
    by_cases hl : lf = 0
    · subst hl
      rw [if_pos rfl]
      go_enter Tryd.func18, Tryd.ntmps18
      go_wp2_with (first
        | (go_at_call 33; refine HM.out.mono ?_; rintro _ w1 ⟨rfl, hw⟩; obtain rfl : w = w1 := hw.symm; clear hw)
        | (go_at_call 24; refine HS.out.mono ?_; rintro _ w1 ⟨rfl, hw⟩; obtain rfl : w = w1 := hw.symm; clear hw))
      go_ret
      exact ⟨rfl, H0.out, But.refl _ _⟩
    · rw [if_neg hl]
      have HS2 : Hid (Calls Tryd.prog 24 #[.pointer (some ⟨g, 0, none⟩)] w fun r w' => r = .returned (.bool false) ∧ w' = w) := by
        refine hidU (HS.out.mono ?_)
        rintro r w' ⟨rfl, h⟩
        exact ⟨by rw [beq_eq_false_iff_ne.2 hl], h⟩
      clear HS
      go_enter Tryd.func18, Tryd.ntmps18
      go_wp2_with (first
        | (go_at_call 33; refine HM.out.mono ?_; rintro _ w1 ⟨rfl, hw⟩; obtain rfl : w = w1 := hw.symm; clear hw)
        | (go_at_call 24; refine HS2.out.mono ?_; rintro _ w1 ⟨rfl, hw⟩; obtain rfl : w = w1 := hw.symm; clear hw)
        | (refine wpList_store1 rfl 3 (.tmp 19) (.tmp 17) rfl g 3 (.int .i64 z) rfl rfl 35 _ HA.out (by simp) i3 rfl rfl ?_; intro w2 hA2 hb2 hs2; simp only [List.set] at hA2))
      go_ret
      exact ⟨rfl, HK.out _ _ hb2 hA2, hb2⟩
end
theorem made_any (p : Option Addr) (x y z : Int) (mb : Nat) (w : World) : Calls Tryd.prog 32 #[.agg #[.pointer p, .int .i64 x, .map (some mb), .int .i64 y, .int .i64 z]] w fun r w' => r = .returned (.pointer (some ⟨w.heap.size, 0, none⟩)) ∧ At 35 w' w.heap.size [.pointer (some ⟨w.heap.size, 0, none⟩), .int .i64 x, .map (some mb), .int .i64 y, .int .i64 z] ∧ Below w.heap.size w w' ∧ w'.heap.size = w.heap.size + 1 := by
  go_enter Tryd.func32, Tryd.ntmps32
  go_wp2
  go_ret
  exact ⟨rfl, _root_.Go.heap_alloc_new w _, (Below.refl _ w).alloc (Nat.le_refl _) _, by simp⟩
theorem new_bad (n : Int) (w : World) (h : n < 1 ∨ 67108864 < n) : Calls Tryd.prog 8 #[.int .i64 n] w fun r w' => r = .returned (.tuple #[.pointer none, .int .i64 2]) ∧ Below w.heap.size w w' := by
  by_cases h1 : n < 1
  · clear h
    go_enter Tryd.func8, Tryd.ntmps8
    go_wp2
    go_ret2
    exact ⟨rfl, Below.refl _ _⟩
  · have h2 : 67108864 < n := h.resolve_left h1
    clear h
    go_enter Tryd.func8, Tryd.ntmps8
    go_wp2
    go_ret2
    exact ⟨rfl, Below.refl _ _⟩
theorem new_ok (n : Nat) (w : World) (h1 : 1 ≤ n) (h2 : n ≤ 67108864) : Calls Tryd.prog 8 #[.int .i64 (n : Int)] w fun r w' => ∃ g mb, r = .returned (.tuple #[.pointer (some ⟨g, 0, none⟩), .int .i64 0]) ∧ Ds w.heap.size w' g mb [] n (-1) 0 ∧ Below w.heap.size w w' := by
  have h1' : ¬ (n : Int) < 1 := by omega
  have h2' : ¬ (67108864 : Int) < n := by omega
  have hM := hidU (MapS.made mF w)
  have hB1 := hidU ((Below.refl w.heap.size w).alloc (Nat.le_refl _) (.map #[] 0))
  have hs1 : (w.alloc (.map #[] 0)).heap.size = w.heap.size + 1 := by simp
  have hmm := @run_makeMap Tryd.prog
  go_enter Tryd.func8, Tryd.ntmps8
  go_wp2_with (go_at_call 32; refine (made_any none n (-1) 0 w.heap.size (w.alloc (.map #[] 0))).mono ?_; rintro _ w1 ⟨rfl, hA, hb, hs⟩)
  go_ret2
  rw [hs1] at hA
  refine ⟨_, w.heap.size, rfl, ⟨hA, hM.out.below hb, fun p hp => (by cases hp), fun p hp => (by cases hp), by omega, Nat.le_refl _, fun p hp => (by cases hp)⟩, hB1.out.trans (hb.mono hB1.out.size)⟩
end Go.Proofs.YtcmkjjlchljffaaDoor

/-
  DERIVED: THE SHELF's CONTRACTS AT THIS DUMP, IN PLAIN WORDS (tools/lay-plain.mjs out of 'YtcmkjjlchljffaaDoorShelf.lean', which tools/lay-shelf.mjs wrote): THE SAME DECLARATIONS UNDER THE SAME NAMES: 'import', 'namespace', 'open', 'def', 'theorem' AND NOTHING ELSE: no command of the shelf's: FOR A HAND-IN. Each laying: the table of numbers ('.._ren') and one theorem, a field a fact of the dump's own or the kernel's comparison; each contract: ONE APPLICATION.
-/
namespace Go.Proofs
open Go.Shelf
def Tryd.lays160_ren : Go.Shelf.Ren := ⟨fun | 160 => 62 | 232 => 68 | 231 => 67 | 227 => 69 | 234 => 71 | 233 => 70 | 236 => 73 | 235 => 72 | 228 => 77 | 271 => 80 | 151 => 79 | 197 => 78 | 120 => 94 | 152 => 93 | 260 => 92 | 137 => 101 | 119 => 102 | 224 => 103 | 225 => 104 | 217 => 106 | 266 => 107 | n => n, fun | 9 => 9 | 4 => 4 | 3 => 3 | 5 => 5 | 117 => 89 | 116 => 88 | 0 => 0 | 124 => 92 | 21 => 21 | 105 => 99 | 46 => 96 | 119 => 122 | 139 => 125 | 138 => 124 | n => n, fun | 3 => 0 | 4 => 1 | n => n⟩
theorem Tryd.lays160 : Go.Proofs.Lays.n160 Tryd.prog Tryd.lays160_ren := {
  mixed := by kernel_rfl
  f119 := Tryd.func102.trans (congrArg some (by kernel_rfl))
  f120 := Tryd.func94.trans (congrArg some (by kernel_rfl))
  f137 := Tryd.func101.trans (congrArg some (by kernel_rfl))
  f151 := Tryd.func79.trans (congrArg some (by kernel_rfl))
  f152 := Tryd.func93.trans (congrArg some (by kernel_rfl))
  f160 := Tryd.func62.trans (congrArg some (by kernel_rfl))
  f197 := Tryd.func78.trans (congrArg some (by kernel_rfl))
  f217 := Tryd.func106.trans (congrArg some (by kernel_rfl))
  f224 := Tryd.func103.trans (congrArg some (by kernel_rfl))
  f225 := Tryd.func104.trans (congrArg some (by kernel_rfl))
  f227 := Tryd.func69.trans (congrArg some (by kernel_rfl))
  f228 := Tryd.func77.trans (congrArg some (by kernel_rfl))
  f231 := Tryd.func67.trans (congrArg some (by kernel_rfl))
  f232 := Tryd.func68.trans (congrArg some (by kernel_rfl))
  f233 := Tryd.func70.trans (congrArg some (by kernel_rfl))
  f234 := Tryd.func71.trans (congrArg some (by kernel_rfl))
  f235 := Tryd.func72.trans (congrArg some (by kernel_rfl))
  f236 := Tryd.func73.trans (congrArg some (by kernel_rfl))
  f260 := Tryd.func92.trans (congrArg some (by kernel_rfl))
  f266 := Tryd.func107.trans (congrArg some (by kernel_rfl))
  f271 := Tryd.func80.trans (congrArg some (by kernel_rfl))
  t0 := Tryd.underlying0
  a0 := Tryd.isAgg0
  z0 := Tryd.sizeOf0
  v0 := Tryd.zeroValue0
  t3 := Tryd.underlying3
  a3 := Tryd.isAgg3
  z3 := Tryd.sizeOf3
  v3 := Tryd.zeroValue3
  t4 := Tryd.underlying4
  a4 := Tryd.isAgg4
  z4 := Tryd.sizeOf4
  v4 := Tryd.zeroValue4
  t5 := Tryd.underlying5
  a5 := Tryd.isAgg5
  z5 := Tryd.sizeOf5
  v5 := Tryd.zeroValue5
  t9 := Tryd.underlying9
  a9 := Tryd.isAgg9
  z9 := Tryd.sizeOf9
  v9 := Tryd.zeroValue9
  t21 := Tryd.underlying21
  a21 := Tryd.isAgg21
  z21 := Tryd.sizeOf21
  v21 := Tryd.zeroValue21
  t46 := Tryd.underlying96
  a46 := Tryd.isAgg96
  z46 := Tryd.sizeOf96
  v46 := Tryd.zeroValue96
  t105 := Tryd.underlying99
  a105 := Tryd.isAgg99
  z105 := Tryd.sizeOf99
  v105 := Tryd.zeroValue99
  t116 := Tryd.underlying88
  a116 := Tryd.isAgg88
  z116 := Tryd.sizeOf88
  t117 := Tryd.underlying89
  a117 := Tryd.isAgg89
  z117 := Tryd.sizeOf89
  v117 := Tryd.zeroValue89
  t119 := Tryd.underlying122
  a119 := Tryd.isAgg122
  z119 := Tryd.sizeOf122
  t124 := Tryd.underlying92
  a124 := Tryd.isAgg92
  z124 := Tryd.sizeOf92
  v124 := Tryd.zeroValue92
  t138 := Tryd.underlying124
  a138 := Tryd.isAgg124
  z138 := Tryd.sizeOf124
  v138 := Tryd.zeroValue124
  t139 := Tryd.underlying125
  a139 := Tryd.isAgg125
  z139 := Tryd.sizeOf125
  v139 := Tryd.zeroValue125
  g3 := by kernel_rfl
  g4 := by kernel_rfl }
open Go.RowKit in
/-- strings.Trim by a set of letters below 128. -/
theorem Tryd.trim_any (s cutset : ByteArray) (w : World) (hs : s.size ≤ 9223372036854775807) (hcs : cutset.size < 4294967281) (hascii : ∀ (j : Nat) b, cutset.data.toList[j]? = some b → b.toNat < 128) :
    Calls Tryd.prog 62 #[.string s, .string cutset] w fun e w' => e = .returned (.string ⟨(Lib.trimS s.data.toList cutset.data.toList).toArray⟩) ∧ Below w.heap.size w w' := Any.strings_Trim_laid Tryd.lays160 (by kernel_rfl) s cutset w hs hcs hascii
def Tryd.laysM316_ren : Go.Shelf.Ren := ⟨fun | 316 => 66 | n => n, fun | 9 => 9 | 3 => 3 | 4 => 4 | 37 => 29 | 0 => 0 | 127 => 97 | 5 => 5 | n => n, fun | n => n⟩
theorem Tryd.laysM316 : Go.Proofs.LaysM.n316 Tryd.prog Tryd.laysM316_ren := {
  mixed := by kernel_rfl
  f316 := Tryd.func66.trans (congrArg some (by kernel_rfl))
  t0 := Tryd.underlying0
  a0 := Tryd.isAgg0
  z0 := Tryd.sizeOf0
  v0 := Tryd.zeroValue0
  t3 := Tryd.underlying3
  a3 := Tryd.isAgg3
  z3 := Tryd.sizeOf3
  v3 := Tryd.zeroValue3
  t4 := Tryd.underlying4
  a4 := Tryd.isAgg4
  z4 := Tryd.sizeOf4
  v4 := Tryd.zeroValue4
  t9 := Tryd.underlying9
  a9 := Tryd.isAgg9
  z9 := Tryd.sizeOf9
  v9 := Tryd.zeroValue9
  t37 := Tryd.underlying29
  a37 := Tryd.isAgg29
  z37 := Tryd.sizeOf29
  v37 := Tryd.zeroValue29
  t127 := Tryd.underlying97
  a127 := Tryd.isAgg97
  z127 := Tryd.sizeOf97
  v127 := Tryd.zeroValue97
  t5 := Tryd.underlying5
  a5 := Tryd.isAgg5
  z5 := Tryd.sizeOf5
  v5 := Tryd.zeroValue5
  i0 := by kernel_rfl
  i3 := by kernel_rfl
  i4 := by kernel_rfl
  i5 := by kernel_rfl
  i9 := by kernel_rfl
  i37 := by kernel_rfl
  i127 := by kernel_rfl }
open Go.RowKit in
/-- strings.Clone's inner call. -/
theorem Tryd.stringslite_Clone (s : ByteArray) (w : World) (hlim : s.size ≤ 281474976710656) :
    Calls Tryd.prog 66 #[.string s] w fun e w' => e = .returned (.string s) ∧ Below w.heap.size w w' := Any.stringslite_Clone Tryd.laysM316 s w hlim
def Tryd.keys59_ren : Go.Shelf.Ren := ⟨fun | 7 => 59 | 10 => 65 | n => n, fun | 23 => 33 | 26 => 9 | 3 => 66 | 28 => 79 | 0 => 0 | 27 => 78 | 33 => 62 | 4 => 4 | n => n, fun | n => n⟩
theorem Tryd.keys59 : Go.Proofs.SlLaysZ.n7 Tryd.prog Tryd.keys59_ren := {
  mixed := by kernel_rfl
  f7 := ⟨Tryd.f59.name, by decide, Tryd.func59.trans (congrArg some (by kernel_rfl))⟩
  f10 := ⟨Tryd.f65.name, by decide, Tryd.func65.trans (congrArg some (by kernel_rfl))⟩
  t0 := Tryd.underlying0
  a0 := Tryd.isAgg0
  z0 := Tryd.sizeOf0
  v0 := Tryd.zeroValue0
  t4 := Tryd.underlying4
  a4 := Tryd.isAgg4
  z4 := Tryd.sizeOf4
  v4 := Tryd.zeroValue4
  t23 := Tryd.underlying33
  a23 := Tryd.isAgg33
  z23 := Tryd.sizeOf33
  v23 := Tryd.zeroValue33
  t26 := Tryd.underlying9
  a26 := Tryd.isAgg9
  z26 := Tryd.sizeOf9
  v26 := Tryd.zeroValue9
  t27 := Tryd.underlying78
  a27 := Tryd.isAgg78
  z27 := Tryd.sizeOf78
  v27 := Tryd.zeroValue78
  t28 := Tryd.underlying79
  a28 := Tryd.isAgg79
  z28 := Tryd.sizeOf79
  v28 := Tryd.zeroValue79
  t33 := Tryd.underlying62
  a33 := Tryd.isAgg62
  z33 := Tryd.sizeOf62
  v33 := Tryd.zeroValue62 }
def Tryd.sorted58_ren : Go.Shelf.Ren := ⟨fun | 6 => 58 | 8 => 63 | 9 => 64 | 11 => 74 | 13 => 76 | 12 => 75 | 23 => 90 | 24 => 91 | 14 => 81 | 15 => 82 | 16 => 83 | 17 => 84 | 18 => 85 | 19 => 86 | 20 => 87 | 21 => 88 | 22 => 89 | 25 => 95 | 26 => 96 | 27 => 97 | 28 => 98 | 29 => 99 | 30 => 100 | 31 => 105 | n => n, fun | 26 => 9 | 28 => 79 | 24 => 44 | 0 => 0 | 3 => 3 | 37 => 96 | 48 => 112 | 50 => 114 | 4 => 4 | 40 => 104 | 39 => 103 | 45 => 109 | 5 => 5 | 9 => 9 | 51 => 116 | 55 => 120 | 57 => 130 | 58 => 131 | 33 => 62 | n => n, fun | n => n⟩
theorem Tryd.sorted58 : Go.Proofs.SlLaysZ.n6 Tryd.prog Tryd.sorted58_ren := {
  mixed := by kernel_rfl
  f6 := ⟨Tryd.f58.name, by decide, Tryd.func58.trans (congrArg some (by kernel_rfl))⟩
  f8 := ⟨Tryd.f63.name, by decide, Tryd.func63.trans (congrArg some (by kernel_rfl))⟩
  f11 := ⟨Tryd.f74.name, by decide, Tryd.func74.trans (congrArg some (by kernel_rfl))⟩
  t0 := Tryd.underlying0
  a0 := Tryd.isAgg0
  z0 := Tryd.sizeOf0
  v0 := Tryd.zeroValue0
  t24 := Tryd.underlying44
  a24 := Tryd.isAgg44
  z24 := Tryd.sizeOf44
  v24 := Tryd.zeroValue44
  t26 := Tryd.underlying9
  a26 := Tryd.isAgg9
  z26 := Tryd.sizeOf9
  v26 := Tryd.zeroValue9
  t28 := Tryd.underlying79
  a28 := Tryd.isAgg79
  z28 := Tryd.sizeOf79
  v28 := Tryd.zeroValue79
  i26 := by kernel_rfl }
def Tryd.sort64_ren : Go.Shelf.Ren := ⟨fun | 6 => 64 | 8 => 76 | 9 => 75 | 19 => 90 | 20 => 91 | 21 => 81 | 22 => 82 | 23 => 83 | 24 => 84 | 25 => 85 | 26 => 86 | 27 => 87 | 28 => 88 | 29 => 89 | 36 => 95 | 31 => 96 | 32 => 97 | 37 => 98 | 38 => 99 | 39 => 100 | 41 => 105 | n => n, fun | 27 => 44 | 29 => 9 | 3 => 3 | 32 => 96 | 26 => 44 | 0 => 0 | 44 => 112 | 46 => 114 | 4 => 4 | 36 => 104 | 35 => 103 | 41 => 109 | 5 => 5 | 9 => 9 | 53 => 116 | 57 => 120 | 63 => 130 | 64 => 131 | n => n, fun | n => n⟩
theorem Tryd.sort64 : Go.Proofs.SlLaysM.n6 Tryd.prog Tryd.sort64_ren := {
  mixed := by kernel_rfl
  f6 := ⟨Tryd.f64.name, by decide, Tryd.func64.trans (congrArg some (by kernel_rfl))⟩
  f8 := Tryd.func76.trans (congrArg some (by kernel_rfl))
  f9 := ⟨Tryd.f75.name, by decide, Tryd.func75.trans (congrArg some (by kernel_rfl))⟩
  f19 := Tryd.func90.trans (congrArg some (by kernel_rfl))
  f20 := Tryd.func91.trans (congrArg some (by kernel_rfl))
  f21 := ⟨Tryd.f81.name, by decide, Tryd.func81.trans (congrArg some (by kernel_rfl))⟩
  f22 := ⟨Tryd.f82.name, by decide, Tryd.func82.trans (congrArg some (by kernel_rfl))⟩
  f23 := ⟨Tryd.f83.name, by decide, Tryd.func83.trans (congrArg some (by kernel_rfl))⟩
  f24 := ⟨Tryd.f84.name, by decide, Tryd.func84.trans (congrArg some (by kernel_rfl))⟩
  f25 := ⟨Tryd.f85.name, by decide, Tryd.func85.trans (congrArg some (by kernel_rfl))⟩
  f26 := ⟨Tryd.f86.name, by decide, Tryd.func86.trans (congrArg some (by kernel_rfl))⟩
  f27 := ⟨Tryd.f87.name, by decide, Tryd.func87.trans (congrArg some (by kernel_rfl))⟩
  f28 := ⟨Tryd.f88.name, by decide, Tryd.func88.trans (congrArg some (by kernel_rfl))⟩
  f29 := ⟨Tryd.f89.name, by decide, Tryd.func89.trans (congrArg some (by kernel_rfl))⟩
  f31 := Tryd.func96.trans (congrArg some (by kernel_rfl))
  f32 := Tryd.func97.trans (congrArg some (by kernel_rfl))
  f36 := ⟨Tryd.f95.name, by decide, Tryd.func95.trans (congrArg some (by kernel_rfl))⟩
  f37 := ⟨Tryd.f98.name, by decide, Tryd.func98.trans (congrArg some (by kernel_rfl))⟩
  f38 := ⟨Tryd.f99.name, by decide, Tryd.func99.trans (congrArg some (by kernel_rfl))⟩
  f39 := ⟨Tryd.f100.name, by decide, Tryd.func100.trans (congrArg some (by kernel_rfl))⟩
  f41 := ⟨Tryd.f105.name, by decide, Tryd.func105.trans (congrArg some (by kernel_rfl))⟩
  t0 := Tryd.underlying0
  a0 := Tryd.isAgg0
  z0 := Tryd.sizeOf0
  v0 := Tryd.zeroValue0
  t3 := Tryd.underlying3
  a3 := Tryd.isAgg3
  z3 := Tryd.sizeOf3
  v3 := Tryd.zeroValue3
  t4 := Tryd.underlying4
  a4 := Tryd.isAgg4
  z4 := Tryd.sizeOf4
  v4 := Tryd.zeroValue4
  t5 := Tryd.underlying5
  a5 := Tryd.isAgg5
  z5 := Tryd.sizeOf5
  v5 := Tryd.zeroValue5
  t9 := Tryd.underlying9
  a9 := Tryd.isAgg9
  z9 := Tryd.sizeOf9
  v9 := Tryd.zeroValue9
  t26 := Tryd.underlying44
  a26 := Tryd.isAgg44
  z26 := Tryd.sizeOf44
  v26 := Tryd.zeroValue44
  t27 := Tryd.underlying44
  a27 := Tryd.isAgg44
  z27 := Tryd.sizeOf44
  v27 := Tryd.zeroValue44
  t29 := Tryd.underlying9
  a29 := Tryd.isAgg9
  z29 := Tryd.sizeOf9
  v29 := Tryd.zeroValue9
  t32 := Tryd.underlying96
  a32 := Tryd.isAgg96
  z32 := Tryd.sizeOf96
  v32 := Tryd.zeroValue96
  t35 := Tryd.underlying103
  a35 := Tryd.isAgg103
  z35 := Tryd.sizeOf103
  v35 := Tryd.zeroValue103
  t36 := Tryd.underlying104
  a36 := Tryd.isAgg104
  z36 := Tryd.sizeOf104
  v36 := Tryd.zeroValue104
  t41 := Tryd.underlying109
  a41 := Tryd.isAgg109
  z41 := Tryd.sizeOf109
  v41 := Tryd.zeroValue109
  t44 := Tryd.underlying112
  a44 := Tryd.isAgg112
  z44 := Tryd.sizeOf112
  v44 := Tryd.zeroValue112
  t46 := Tryd.underlying114
  a46 := Tryd.isAgg114
  z46 := Tryd.sizeOf114
  v46 := Tryd.zeroValue114
  t53 := Tryd.underlying116
  a53 := Tryd.isAgg116
  z53 := Tryd.sizeOf116
  v53 := Tryd.zeroValue116
  t57 := Tryd.underlying120
  a57 := Tryd.isAgg120
  z57 := Tryd.sizeOf120
  v57 := Tryd.zeroValue120
  t63 := Tryd.underlying130
  a63 := Tryd.isAgg130
  z63 := Tryd.sizeOf130
  v63 := Tryd.zeroValue130
  t64 := Tryd.underlying131
  a64 := Tryd.isAgg131
  z64 := Tryd.sizeOf131
  v64 := Tryd.zeroValue131 }
end Go.Proofs

/- The landed disk: copies of texts and of bytes; the map's laws at a single step. -/
namespace Go.Proofs.YtcmkjjlchljffaaDoor
open Go.RowKit
set_option linter.unusedVariables false
set_option maxRecDepth 100000
set_option maxHeartbeats 3200000

theorem str_clone (s : ByteArray) (w : World) (hs : s.size ≤ 281474976710656) : Calls Tryd.prog 61 #[.string s] w fun r w' => r = .returned (.string s) ∧ Below w.heap.size w w' := by
  have HC := hidU (Tryd.stringslite_Clone s w hs)
  go_enter Tryd.func61, Tryd.ntmps61
  go_wp2_with (go_at_call 66; refine HC.out.mono ?_; rintro _ w1 ⟨rfl, hb⟩)
  go_ret
  exact ⟨rfl, hb⟩
theorem clone_nil (n c : Nat) (w : World) : Calls Tryd.prog 50 #[.slice none n c] w fun r w' => r = .returned (.slice none 0 0) ∧ w' = w := by
  have hq : (binOp .eql 29 (.slice none n c) (.slice none 0 0)).run Tryd.prog w = .ok (.bool true) w := Lib.run_eql_slice_nil w 29 _ none n c 0 0 Tryd.underlying29
  go_enter Tryd.func50, Tryd.ntmps50
  go_wp2
  go_ret
  exact ⟨rfl, rfl⟩
theorem clone_some (ad : Addr) (n c : Nat) (bs : List UInt8) (w : World) (h : Row w (some ad) bs) (hn : bs.length = n) (hc : n ≤ c) (hm : n ≤ 140737488355328) :
    Calls Tryd.prog 50 #[.slice (some ad) n c] w fun r w' => ∃ v, r = .returned v ∧ OwnX eB w.heap.size w' v bs ∧ Below w.heap.size w w' := by
  have HR := hidU (rowB.2 h)
  have hq : (binOp .eql 29 (.slice (some ad) n c) (.slice none 0 0)).run Tryd.prog w = .ok (.bool false) w := Lib.run_eql_slice_nil w 29 _ (some ad) n c 0 0 Tryd.underlying29
  clear h
  go_enter Tryd.func50, Tryd.ntmps50
  go_wp2_with (refine wpList_layB0 rfl rfl ?_; intro w1 hO hb hs; refine Hid.out ?_)
  have HR1 := hidU (HR.out.below hb)
  have HO := hidU hO
  have HB := hidU hb
  have hbase : w.heap.size ≤ w1.heap.size := hb.size
  refine hidU ?_
  clear hs hO hb
  go_wp2_with (refine wpList_appX eB rfl (.tmp 5) (.tmp 6) rfl w.heap.size _ _ n c rfl rfl HO.out hn (fun h => by cases h) hc HR1.out (by unfold maxLen; simp; omega) (by show (_ + n) * 1 ≤ _; simp; omega) hbase ?_; intro v' w2 hO2 hg; refine Hid.out ?_)
  have HB2 : Hid (Below w.heap.size w w2) := by
    refine HB.out.trans ?_
    exact (Chg.of_grown (K := fun k => w.heap.size ≤ k) hg (fun k hk => (HO.out.block k hk).1)).below hbase (fun k hk => hk)
  rw [List.nil_append] at hO2
  refine hidU ?_
  clear hg
  go_wp2
  go_ret
  exact ⟨_, rfl, hO2, HB2.out⟩
end Go.Proofs.YtcmkjjlchljffaaDoor

/- The sorted keys of a map, at this seat. -/
namespace Go.Proofs
open Go.RowKit Go.Maps Go.Sort Go.Shelf

/-- slices.Sort's two contracts at this dump, at the fence that asks nothing. -/
theorem Tryd.sorts58 (m : Nat) : AnyZ.SortsIn Tryd.prog Tryd.sorted58_ren Fence.wide m :=
  ⟨fun blk off cap ss W hH hblk hsz => callsIn_wide.2 (AnyM.slices_Sort_string Tryd.sort64 blk off cap ss W hH hblk hsz),
   fun p cap W => callsIn_wide.2 (AnyM.slices_Sort_string_none Tryd.sort64 p cap W)⟩

/-- maps.Keys[map[string]assize/disk.file,string,assize/disk.file], at whatever map, the nil one too: a function value over ONE NEW BLOCK, which holds the map. -/
theorem Tryd.maps_Keys_59 (mb : Option Nat) (W : World) : CallsIn Fence.wide 5 Tryd.prog 59 #[.map mb] W fun e w' => e = .returned (.func (.func 65) #[] #[.pointer (some ⟨W.heap.size, 0, none⟩)]) ∧ w' = W.alloc (.cells #[.map mb] 33) :=
  AnyZ.keys_in Tryd.keys59 Fence.wide 5 trivial rfl mb W

set_option maxHeartbeats 1000000 in
/-- slices.Sorted[string] AT WHAT maps.Keys[map[string]assize/disk.file,string,assize/disk.file] HANDED BACK FOR A MAP THAT IS NOT nil ('w': the world AHEAD of maps.Keys' call): A NEW SLICE THAT HOLDS THE MAP's KEYS, SORTED; nil just where it has none; nothing that lay before has turned. -/
theorem Tryd.slices_Sorted_keys_58_59 {H : Type} (b nn : Nat) (D0 : DataW H) (R : Value → Option (DataW H × List MemPlace)) (w : World) (hown : w.ownsMap Tryd.prog 9 R b nn D0) (hmax : Maps.size D0 ≤ maxLen) (hbytes : Maps.size D0 * 16 ≤ 140737488355328) :
    CallsIn Fence.wide 5 Tryd.prog 58 #[.func (.func 65) #[] #[.pointer (some ⟨w.heap.size, 0, none⟩)]] (w.alloc (.cells #[.map (some b)] 33)) fun e w' => ∃ (v : Value) (ss : List (List UInt8)), e = .returned v ∧ ss.Perm (strKeys D0) ∧
      w'.ownsRow (w.alloc (.cells #[.map (some b)] 33)).heap.size 9 1 v ss.length ((ss.mergeSort (fun x y => decide (x ≤ y))).map encStr) ∧ (v = .slice none 0 0 ↔ ss = []) ∧ Below (w.alloc (.cells #[.map (some b)] 33)).heap.size (w.alloc (.cells #[.map (some b)] 33)) w' := by
  have hbl := hown.lt
  have hseq : SeqGives Fence.wide 2 Tryd.prog 65 #[.pointer (some ⟨w.heap.size, 0, none⟩)] encStr (fun ss => ss.Perm (strKeys D0)) (Maps.size D0) (w.alloc (.cells #[.map (some b)] 33)) :=
    AnyZ.keys_gives (ρ := Tryd.keys59_ren) { Tryd.keys59 with } Fence.wide _ trivial rfl (by omega) w.heap.size b nn D0 _ (by simp) (by simp) (by
      obtain ⟨es, clock, hb, Ft, hs, hD⟩ := hown
      exact ⟨es, clock, (Below.heap_alloc _ _ b hbl).trans hb, Ft, hs, hD⟩)
  exact AnyZ.sorted_in Tryd.sorted58 Fence.wide 5 trivial trivial trivial trivial rfl (by omega) (Tryd.sorts58 _) (enters_of Tryd.func64 (by kernel_rfl) rfl) 65 #[.pointer (some ⟨w.heap.size, 0, none⟩)] trivial (enters_of Tryd.func65 (by kernel_rfl) rfl) _ _ hmax hbytes _ hseq

end Go.Proofs
